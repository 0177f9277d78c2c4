import Derived.Test.YtkanjkofdfmhhabDoorJg
import Derived.Deep.RegionHeld3
namespace Go.Proofs.YtkanjkofdfmhhabDoor.jf
open Go.RowKit Go.PlainAid
open Go.Proofs.YtkanjkofdfmhhabDoor.pl Go.Proofs.YtkanjkofdfmhhabDoor.pi Go.Proofs.YtkanjkofdfmhhabDoor.pj Go.Proofs.YtkanjkofdfmhhabDoor.rf Go.Proofs.YtkanjkofdfmhhabDoor.ca Go.Proofs.YtkanjkofdfmhhabDoor.cb Go.Proofs.YtkanjkofdfmhhabDoor.cp Go.Proofs.YtkanjkofdfmhhabDoor.ka Go.Proofs.YtkanjkofdfmhhabDoor.kb Go.Proofs.YtkanjkofdfmhhabDoor.ga Go.Proofs.YtkanjkofdfmhhabDoor.gb Go.Proofs.YtkanjkofdfmhhabDoor.gs Go.Proofs.YtkanjkofdfmhhabDoor.gc Go.Proofs.YtkanjkofdfmhhabDoor.gd Go.Proofs.YtkanjkofdfmhhabDoor.ge Go.Proofs.YtkanjkofdfmhhabDoor.gr Go.Proofs.YtkanjkofdfmhhabDoor.gp Go.Proofs.YtkanjkofdfmhhabDoor.gq Go.Proofs.YtkanjkofdfmhhabDoor.jb Go.Proofs.YtkanjkofdfmhhabDoor.jc Go.Proofs.YtkanjkofdfmhhabDoor.jd Go.Proofs.YtkanjkofdfmhhabDoor.je Go.Proofs.YtkanjkofdfmhhabDoor.jg
set_option linter.unusedVariables false

def XY : List ByteArray := [⟨#[120]⟩, ⟨#[121]⟩]
theorem xy_reads (W : World) : ReadsT (W.alloc (.cells #[.string ⟨#[120]⟩, .string ⟨#[121]⟩] 9)) (.slice (some ⟨W.heap.size, 0, none⟩) 2 2) XY := by
  refine ⟨_, 2, rfl, Nat.le_refl _, .inr ⟨W.heap.size, 0, rfl, fun i hi => ?_⟩⟩
  rw [World.cell?_alloc_at _ _ _ _ rfl, Nat.zero_add]
  have : i < 2 := hi
  match i, this with
  | 0, _ => rfl
  | 1, _ => rfl
theorem xy_fits : Fits XY := by
  refine ⟨fun x hx => ?_, by decide⟩
  have : x = ⟨#[120]⟩ ∨ x = ⟨#[121]⟩ := by simpa [XY] using hx
  rcases this with rfl | rfl <;> decide
theorem add_text (a b : ByteArray) (h : a.size + b.size ≤ 9223372036854775807) : Op.stringOp .add a b = pure (.string (a ++ b)) := by
  unfold Op.stringOp
  rw [if_neg]
  have e : IntKind.i64.max = 9223372036854775807 := by decide
  rw [e]
  omega
def cur (w : World) (q : Addr) : Value := (w.cell? q).getD (.bool false)
theorem cur_of {w : World} {q : Addr} {x : Value} (h : w.cell? q = some x) : w.cell? q = some (cur w q) := by unfold cur; rw [h]; rfl
theorem three_on {w w' : World} {p q : Addr} {x : Value} (h : w.cell? p = some x ∧ w.cell? q = some (cur w q) ∧ w.frozen? q = false) (hb : Below w.heap.size w w') : w'.cell? p = some x ∧ w'.cell? q = some (cur w' q) ∧ w'.frozen? q = false := by
  have hq := World.block_lt_of_cell? _ _ h.2.1
  refine ⟨(hb.cell (p := p) (World.block_lt_of_cell? _ _ h.1)).trans h.1, cur_of ((hb.cell (p := q) hq).trans h.2.1), ?_⟩
  rw [World.frozen?_of_block (hb.block q.block hq)]; exact h.2.2
theorem three_put {w : World} {p : Addr} {x : Value} {g j : Nat} (h : w.cell? p = some x ∧ w.cell? ⟨g, j, none⟩ = some (cur w ⟨g, j, none⟩) ∧ w.frozen? ⟨g, j, none⟩ = false) (y : Value) (hne : p.block ≠ g) : (w.setCell ⟨g, j, none⟩ y).cell? p = some x ∧ (w.setCell ⟨g, j, none⟩ y).cell? ⟨g, j, none⟩ = some (cur (w.setCell ⟨g, j, none⟩ y) ⟨g, j, none⟩) ∧ (w.setCell ⟨g, j, none⟩ y).frozen? ⟨g, j, none⟩ = false := by
  refine ⟨?_, ?_, ?_⟩
  · rw [World.cell?_of_block (Below.heap_setCell w ⟨g, j, none⟩ y p.block hne)]; exact h.1
  · exact cur_of (World.cell?_setCell_same' _ _ _ (by rw [h.2.1]; rfl))
  · rw [World.frozen?_setCell]; exact h.2.2
theorem wide_of {T : World → Prop} {w : World} {F M : List (Value × List ByteArray)} {V : List Value} {A k nk cv q : Nat} {a : Option Addr} {ts : List ByteArray} (hF : F.length = 4) (hk : M[k]? = some (.slice a nk cv, ts)) (hn : ts.length = nk) (hz : nk * 16 ≤ 140737488351232) (hq : nk + 64 = q) (y : ByteArray) (w' : World) (h : St T w F M V A w') :
    Calls Tryd.prog 16 #[.slice a nk cv, .string y] w' fun e w'' => e = .returned (.int .i64 (q : Int)) ∧ St T w F M V A w'' := by
  subst hn
  subst hq
  refine (wide w.heap.size _ ts y w' (h.s.r.at (at_four hF hk)) (by omega) h.s.b.size).mono ?_
  rintro e w'' ⟨rfl, hg, ho⟩
  exact ⟨rfl, h.kept hF hk hg ho⟩
theorem sk_on {T : World → Prop} {w w' w'' : World} {F M : List (Value × List ByteArray)} {V : List Value} {A k : Nat} {x : Value} (h : St T w F M V A w' ∧ w'.cell? ⟨A, k, none⟩ = some x) (hx : V[k]? = some x) (hb : Below w'.heap.size w' w'') : St T w F M V A w'' ∧ w''.cell? ⟨A, k, none⟩ = some x := ⟨h.1.on hb, (h.1.on hb).cell k x hx⟩
theorem sk_of {T : World → Prop} {w w'' : World} {F M : List (Value × List ByteArray)} {V : List Value} {A k : Nat} {x : Value} (h : St T w F M V A w'') (hx : V[k]? = some x) : St T w F M V A w'' ∧ w''.cell? ⟨A, k, none⟩ = some x := ⟨h, h.cell k x hx⟩
theorem two_on {w w' : World} {p q : Addr} {x y : Value} (h : w.cell? p = some x ∧ w.cell? q = some y) (hb : Below w.heap.size w w') : w'.cell? p = some x ∧ w'.cell? q = some y :=
  ⟨(hb.cell (p := p) (World.block_lt_of_cell? _ _ h.1)).trans h.1, (hb.cell (p := q) (World.block_lt_of_cell? _ _ h.2)).trans h.2⟩
theorem d1 (W : World) : Below W.heap.size W W.drew := below_dN (Below.refl _ _) 1
theorem al (W : World) (o : Obj) : Below W.heap.size W (W.alloc o) := (Below.refl _ _).alloc (Nat.le_refl _) o
set_option maxHeartbeats 3200000 in
set_option maxRecDepth 100000 in
theorem mth_lists {T : World → Prop} (later : ∀ {w w' : World}, T w → Below w.heap.size w w' → T w') (tab : ∀ {w : World}, T w → Tab4 w) (RC : RootC T) (PC : PathC T) (QC : ProofC T) (wd i m : Int) (hwd : i64 wd) (hi : i64 i) (hm : i64 m) (v : Value) (xs : List ByteArray) (w : World) (hT : T w) (hR : ReadsT w v xs) (hno : ∀ k c, v = .slice none k c → c = 0) (hx : ∀ x ∈ xs, x.size ≤ 140737488351232) (hl : xs.length * 16 ≤ 140737488351232) :
    Calls Tryd.prog 5 #[.int .i64 wd, .int .i64 i, .int .i64 m, v] w fun e w' => e = .returned (.bool true) ∧ Below w.heap.size w w' := by
  have hf : Fits xs := ⟨fun x h => by have := hx x h; omega, hl⟩
  have HRD : Hid (ReadsT w v xs) := hR
  have RN : Hid (∀ w', T w' → ReadsT w' v xs → Calls _ _ _ _ _) := fun w' h1 h2 => renewed later tab RC PC QC wd i m hwd hi hm v xs w' h1 h2 hno hx hl
  have S0 : Hid (Sd T w [] w) := ⟨later, hT, Below.refl _ _, Rws.nil _ _⟩
  have JPl : Hid (∀ L w', Sd T w L w' → Calls _ _ _ _ _) := fun L w' s => rPath wd i v xs w' (tab s.tt) (HRD.out.later s.b) hf
  have JQl : Hid (∀ L w', Sd T w L w' → Calls _ _ _ _ _) := fun L w' s => rProof wd m v xs w' (tab s.tt) (HRD.out.later s.b) hf
  have KPl : Hid (∀ L w', Sd T w L w' → Calls _ _ _ _ _) := fun L w' s => PC wd i v xs w' hwd hi s.tt (HRD.out.later s.b) hf
  have KQl : Hid (∀ L w', Sd T w L w' → Calls _ _ _ _ _) := fun L w' s => QC wd m v xs w' hwd hm s.tt (HRD.out.later s.b) hf
  have JPx : Hid (∀ L u w', Sd T w L w' → ReadsT w' u XY → Calls _ _ _ _ _) := fun L u w' s h => rPath wd 0 u XY w' (tab s.tt) h xy_fits
  have JQx : Hid (∀ L u w', Sd T w L w' → ReadsT w' u XY → Calls _ _ _ _ _) := fun L u w' s h => rProof wd 1 u XY w' (tab s.tt) h xy_fits
  have KPx : Hid (∀ L u w', Sd T w L w' → ReadsT w' u XY → Calls _ _ _ _ _) := fun L u w' s h => PC wd 0 u XY w' hwd ⟨by omega, by omega⟩ s.tt h xy_fits
  have KQx : Hid (∀ L u w', Sd T w L w' → ReadsT w' u XY → Calls _ _ _ _ _) := fun L u w' s h => QC wd 1 u XY w' hwd ⟨by omega, by omega⟩ s.tt h xy_fits
  have l1 := PT_len wd i xs
  have l2 := QT_len wd m xs
  have l3 := PT_len wd 0 XY
  have l4 := QT_len wd 1 XY
  have l5 : XY.length = 2 := rfl
  obtain ⟨P, HP⟩ : ∃ P, Hid (PT wd i xs = P) := ⟨_, rfl⟩
  obtain ⟨pe, HPE⟩ : ∃ P, Hid (PE i xs = P) := ⟨_, rfl⟩
  obtain ⟨Q, HQ⟩ : ∃ P, Hid (QT wd m xs = P) := ⟨_, rfl⟩
  obtain ⟨qe, HQE⟩ : ∃ P, Hid (QE m xs = P) := ⟨_, rfl⟩
  obtain ⟨P0, HP0⟩ : ∃ P, Hid (PT wd 0 XY = P) := ⟨_, rfl⟩
  obtain ⟨p0, HPE0⟩ : ∃ P, Hid (PE 0 XY = P) := ⟨_, rfl⟩
  obtain ⟨Q0, HQ0⟩ : ∃ P, Hid (QT wd 1 XY = P) := ⟨_, rfl⟩
  obtain ⟨q0, HQE0⟩ : ∃ P, Hid (QE 1 XY = P) := ⟨_, rfl⟩
  rw [HP.out, HPE.out] at JPl KPl
  rw [HQ.out, HQE.out] at JQl KQl
  rw [HP0.out, HPE0.out] at JPx KPx
  rw [HQ0.out, HQE0.out] at JQx KQx
  rw [HP.out] at l1
  rw [HQ.out] at l2
  rw [HP0.out] at l3
  rw [HQ0.out] at l4
  have SM (P : List ByteArray) (hz : P.length ≤ 140737488355328) : ∀ (u u' : Value) w', ReadsT w' u P → ReadsT w' u' P → Calls Tryd.prog 10 #[u, u'] w' fun e w'' => e = .returned (.bool true) ∧ Below w'.heap.size w' w'' := fun u u' w' h1 h2 => by
    refine (same_yes u u' P w' h1 h2 hz).mono ?_
    rintro e w'' ⟨rfl, c, hw⟩
    exact ⟨rfl, by rw [hw]; exact below_dN (Below.refl _ _) c⟩
  have SP : Hid (∀ (u u' : Value) w', ReadsT w' u P → ReadsT w' u' P → Calls _ _ _ _ _) := SM P (by omega)
  have SQ : Hid (∀ (u u' : Value) w', ReadsT w' u Q → ReadsT w' u' Q → Calls _ _ _ _ _) := SM Q (by omega)
  have SP0 : Hid (∀ (u u' : Value) w', ReadsT w' u P0 → ReadsT w' u' P0 → Calls _ _ _ _ _) := SM P0 (by omega)
  have SQ0 : Hid (∀ (u u' : Value) w', ReadsT w' u Q0 → ReadsT w' u' Q0 → Calls _ _ _ _ _) := SM Q0 (by omega)
  have HLN : Hid (P.length * 16 ≤ 140737488351232 ∧ Q.length * 16 ≤ 140737488351232 ∧ P0.length ≤ 2 ∧ Q0.length ≤ 2) := ⟨by omega, by omega, by omega, by omega⟩
  have x1 : (pe == pe) = true := beq_self_eq_true _
  have x2 : (qe == qe) = true := beq_self_eq_true _
  have x3 : (p0 == p0) = true := beq_self_eq_true _
  have x4 : (q0 == q0) = true := beq_self_eq_true _
  obtain ⟨a, cap, rfl, hcap, hh⟩ := hR
  obtain ⟨n, HN⟩ : ∃ n, Hid (xs.length = n) := ⟨_, rfl⟩
  rw [HN.out] at hcap JPl JQl KPl KQl RN HRD ⊢
  clear SM hf hx later tab RC PC QC hwd hi hm hT hno hh l1 l2 l3 l4 l5 hl
  go_enter Tryd.func5, Tryd.ntmps5
  go_wp2_with fail
  refine (JPl.out _ _ S0.out).mono ?_
  rintro e w1 ⟨⟨u1, rfl, hu⟩, hb⟩
  have S1 : Hid (Sd T w ([] ++ [(u1, P)]) w1) := S0.out.add hb hu
  obtain ⟨a1, c1, rfl⟩ := own_formS hu
  clear hu hb S0
  go_wp2_with fail
  refine (JQl.out _ _ S1.out).mono ?_
  rintro e w2 ⟨⟨u2, rfl, hu⟩, hb⟩
  have S2 : Hid (Sd T w ([(.slice a1 P.length c1, P)] ++ [(u2, Q)]) w2) := S1.out.add hb hu
  obtain ⟨a2, c2, rfl⟩ := own_formS hu
  clear hu hb S1
  go_wp2_with fail
  refine (JPx.out _ _ _ (S2.out.on (al _ _)) (xy_reads _)).mono ?_
  rintro e w3 ⟨⟨u3, rfl, hu⟩, hb⟩
  have S3 : Hid (Sd T w ([(.slice a1 P.length c1, P), (.slice a2 Q.length c2, Q)] ++ [(u3, P0)]) w3) := (S2.out.on (al _ _)).add hb hu
  obtain ⟨a3, c3, rfl⟩ := own_formS hu
  clear hu hb S2
  go_wp2_with fail
  refine (JQx.out _ _ _ (S3.out.on (al _ _)) (xy_reads _)).mono ?_
  rintro e w4 ⟨⟨u4, rfl, hu⟩, hb⟩
  have S4 : Hid (Sd T w ([(.slice a1 P.length c1, P), (.slice a2 Q.length c2, Q), (.slice a3 P0.length c3, P0)] ++ [(u4, Q0)]) w4) := (S3.out.on (al _ _)).add hb hu
  obtain ⟨a4, c4, rfl⟩ := own_formS hu
  clear hu hb S3
  go_wp2_with fail
  refine (KPl.out _ _ S4.out).mono ?_
  rintro e w5 ⟨⟨u5, rfl, hu⟩, hb⟩
  have S5 : Hid (Sd T w ([(.slice a1 P.length c1, P), (.slice a2 Q.length c2, Q), (.slice a3 P0.length c3, P0), (.slice a4 Q0.length c4, Q0)] ++ [(u5, P)]) w5) := S4.out.add hb hu
  obtain ⟨a5, c5, rfl⟩ := own_formS hu
  clear hu hb S4
  go_wp2_with fail
  refine (KPl.out _ _ S5.out).mono ?_
  rintro e w6 ⟨⟨u6, rfl, hu⟩, hb⟩
  have S6 : Hid (Sd T w ([(.slice a1 P.length c1, P), (.slice a2 Q.length c2, Q), (.slice a3 P0.length c3, P0), (.slice a4 Q0.length c4, Q0), (.slice a5 P.length c5, P)] ++ [(u6, P)]) w6) := S5.out.add hb hu
  obtain ⟨a6, c6, rfl⟩ := own_formS hu
  clear hu hb S5
  go_wp2_with fail
  refine (KPx.out _ _ _ (S6.out.on (al _ _)) (xy_reads _)).mono ?_
  rintro e w7 ⟨⟨u7, rfl, hu⟩, hb⟩
  have S7 : Hid (Sd T w ([(.slice a1 P.length c1, P), (.slice a2 Q.length c2, Q), (.slice a3 P0.length c3, P0), (.slice a4 Q0.length c4, Q0), (.slice a5 P.length c5, P), (.slice a6 P.length c6, P)] ++ [(u7, P0)]) w7) := (S6.out.on (al _ _)).add hb hu
  obtain ⟨a7, c7, rfl⟩ := own_formS hu
  clear hu hb S6
  go_wp2_with fail
  refine (KPx.out _ _ _ (S7.out.on (al _ _)) (xy_reads _)).mono ?_
  rintro e w8 ⟨⟨u8, rfl, hu⟩, hb⟩
  have S8 : Hid (Sd T w ([(.slice a1 P.length c1, P), (.slice a2 Q.length c2, Q), (.slice a3 P0.length c3, P0), (.slice a4 Q0.length c4, Q0), (.slice a5 P.length c5, P), (.slice a6 P.length c6, P), (.slice a7 P0.length c7, P0)] ++ [(u8, P0)]) w8) := (S7.out.on (al _ _)).add hb hu
  obtain ⟨a8, c8, rfl⟩ := own_formS hu
  clear hu hb S7
  go_wp2_with fail
  refine (KPl.out _ _ S8.out).mono ?_
  rintro e w9 ⟨⟨u9, rfl, hu⟩, hb⟩
  have S9 : Hid (Sd T w ([(.slice a1 P.length c1, P), (.slice a2 Q.length c2, Q), (.slice a3 P0.length c3, P0), (.slice a4 Q0.length c4, Q0), (.slice a5 P.length c5, P), (.slice a6 P.length c6, P), (.slice a7 P0.length c7, P0), (.slice a8 P0.length c8, P0)] ++ [(u9, P)]) w9) := S8.out.add hb hu
  obtain ⟨a9, c9, rfl⟩ := own_formS hu
  clear hu hb S8
  go_wp2_with fail
  refine (KQl.out _ _ S9.out).mono ?_
  rintro e w10 ⟨⟨u10, rfl, hu⟩, hb⟩
  have S10 : Hid (Sd T w ([(.slice a1 P.length c1, P), (.slice a2 Q.length c2, Q), (.slice a3 P0.length c3, P0), (.slice a4 Q0.length c4, Q0), (.slice a5 P.length c5, P), (.slice a6 P.length c6, P), (.slice a7 P0.length c7, P0), (.slice a8 P0.length c8, P0), (.slice a9 P.length c9, P)] ++ [(u10, Q)]) w10) := S9.out.add hb hu
  obtain ⟨a10, c10, rfl⟩ := own_formS hu
  clear hu hb S9
  go_wp2_with fail
  refine (KQl.out _ _ S10.out).mono ?_
  rintro e w11 ⟨⟨u11, rfl, hu⟩, hb⟩
  have S11 : Hid (Sd T w ([(.slice a1 P.length c1, P), (.slice a2 Q.length c2, Q), (.slice a3 P0.length c3, P0), (.slice a4 Q0.length c4, Q0), (.slice a5 P.length c5, P), (.slice a6 P.length c6, P), (.slice a7 P0.length c7, P0), (.slice a8 P0.length c8, P0), (.slice a9 P.length c9, P), (.slice a10 Q.length c10, Q)] ++ [(u11, Q)]) w11) := S10.out.add hb hu
  obtain ⟨a11, c11, rfl⟩ := own_formS hu
  clear hu hb S10
  go_wp2_with fail
  refine (KQx.out _ _ _ (S11.out.on (al _ _)) (xy_reads _)).mono ?_
  rintro e w12 ⟨⟨u12, rfl, hu⟩, hb⟩
  have S12 : Hid (Sd T w ([(.slice a1 P.length c1, P), (.slice a2 Q.length c2, Q), (.slice a3 P0.length c3, P0), (.slice a4 Q0.length c4, Q0), (.slice a5 P.length c5, P), (.slice a6 P.length c6, P), (.slice a7 P0.length c7, P0), (.slice a8 P0.length c8, P0), (.slice a9 P.length c9, P), (.slice a10 Q.length c10, Q), (.slice a11 Q.length c11, Q)] ++ [(u12, Q0)]) w12) := (S11.out.on (al _ _)).add hb hu
  obtain ⟨a12, c12, rfl⟩ := own_formS hu
  clear hu hb S11
  go_wp2_with fail
  refine (KQx.out _ _ _ (S12.out.on (al _ _)) (xy_reads _)).mono ?_
  rintro e w13 ⟨⟨u13, rfl, hu⟩, hb⟩
  have S13 : Hid (Sd T w ([(.slice a1 P.length c1, P), (.slice a2 Q.length c2, Q), (.slice a3 P0.length c3, P0), (.slice a4 Q0.length c4, Q0), (.slice a5 P.length c5, P), (.slice a6 P.length c6, P), (.slice a7 P0.length c7, P0), (.slice a8 P0.length c8, P0), (.slice a9 P.length c9, P), (.slice a10 Q.length c10, Q), (.slice a11 Q.length c11, Q), (.slice a12 Q0.length c12, Q0)] ++ [(u13, Q0)]) w13) := (S12.out.on (al _ _)).add hb hu
  obtain ⟨a13, c13, rfl⟩ := own_formS hu
  clear hu hb S12
  go_wp2_with fail
  refine (KQl.out _ _ S13.out).mono ?_
  rintro e w14 ⟨⟨u14, rfl, hu⟩, hb⟩
  have S14 : Hid (Sd T w ([(.slice a1 P.length c1, P), (.slice a2 Q.length c2, Q), (.slice a3 P0.length c3, P0), (.slice a4 Q0.length c4, Q0), (.slice a5 P.length c5, P), (.slice a6 P.length c6, P), (.slice a7 P0.length c7, P0), (.slice a8 P0.length c8, P0), (.slice a9 P.length c9, P), (.slice a10 Q.length c10, Q), (.slice a11 Q.length c11, Q), (.slice a12 Q0.length c12, Q0), (.slice a13 Q0.length c13, Q0)] ++ [(u14, Q)]) w14) := S13.out.add hb hu
  obtain ⟨a14, c14, rfl⟩ := own_formS hu
  clear hu hb S13
  go_wp2_with fail
  refine (SP.out _ _ _ (S14.out.r.reads (i := 4) rfl) (S14.out.r.reads (i := 0) rfl)).mono ?_
  rintro e w15 ⟨rfl, hb⟩
  have S15 : Hid (Sd T w ([(.slice a1 P.length c1, P), (.slice a2 Q.length c2, Q), (.slice a3 P0.length c3, P0), (.slice a4 Q0.length c4, Q0), (.slice a5 P.length c5, P), (.slice a6 P.length c6, P), (.slice a7 P0.length c7, P0), (.slice a8 P0.length c8, P0), (.slice a9 P.length c9, P), (.slice a10 Q.length c10, Q), (.slice a11 Q.length c11, Q), (.slice a12 Q0.length c12, Q0), (.slice a13 Q0.length c13, Q0), (.slice a14 Q.length c14, Q)]) w15) := S14.out.on hb
  clear hb S14
  go_wp2_with fail
  refine (SP.out _ _ _ (S15.out.r.reads (i := 5) rfl) (S15.out.r.reads (i := 0) rfl)).mono ?_
  rintro e w16 ⟨rfl, hb⟩
  have S16 : Hid (Sd T w ([(.slice a1 P.length c1, P), (.slice a2 Q.length c2, Q), (.slice a3 P0.length c3, P0), (.slice a4 Q0.length c4, Q0), (.slice a5 P.length c5, P), (.slice a6 P.length c6, P), (.slice a7 P0.length c7, P0), (.slice a8 P0.length c8, P0), (.slice a9 P.length c9, P), (.slice a10 Q.length c10, Q), (.slice a11 Q.length c11, Q), (.slice a12 Q0.length c12, Q0), (.slice a13 Q0.length c13, Q0), (.slice a14 Q.length c14, Q)]) w16) := S15.out.on hb
  clear hb S15
  go_wp2_with fail
  refine (SP.out _ _ _ (S16.out.r.reads (i := 8) rfl) (S16.out.r.reads (i := 0) rfl)).mono ?_
  rintro e w17 ⟨rfl, hb⟩
  have S17 : Hid (Sd T w ([(.slice a1 P.length c1, P), (.slice a2 Q.length c2, Q), (.slice a3 P0.length c3, P0), (.slice a4 Q0.length c4, Q0), (.slice a5 P.length c5, P), (.slice a6 P.length c6, P), (.slice a7 P0.length c7, P0), (.slice a8 P0.length c8, P0), (.slice a9 P.length c9, P), (.slice a10 Q.length c10, Q), (.slice a11 Q.length c11, Q), (.slice a12 Q0.length c12, Q0), (.slice a13 Q0.length c13, Q0), (.slice a14 Q.length c14, Q)]) w17) := S16.out.on hb
  clear hb S16
  go_wp2_with fail
  refine (SP0.out _ _ _ (S17.out.r.reads (i := 6) rfl) (S17.out.r.reads (i := 2) rfl)).mono ?_
  rintro e w18 ⟨rfl, hb⟩
  have S18 : Hid (Sd T w ([(.slice a1 P.length c1, P), (.slice a2 Q.length c2, Q), (.slice a3 P0.length c3, P0), (.slice a4 Q0.length c4, Q0), (.slice a5 P.length c5, P), (.slice a6 P.length c6, P), (.slice a7 P0.length c7, P0), (.slice a8 P0.length c8, P0), (.slice a9 P.length c9, P), (.slice a10 Q.length c10, Q), (.slice a11 Q.length c11, Q), (.slice a12 Q0.length c12, Q0), (.slice a13 Q0.length c13, Q0), (.slice a14 Q.length c14, Q)]) w18) := S17.out.on hb
  clear hb S17
  go_wp2_with fail
  refine (SP0.out _ _ _ (S18.out.r.reads (i := 7) rfl) (S18.out.r.reads (i := 2) rfl)).mono ?_
  rintro e w19 ⟨rfl, hb⟩
  have S19 : Hid (Sd T w ([(.slice a1 P.length c1, P), (.slice a2 Q.length c2, Q), (.slice a3 P0.length c3, P0), (.slice a4 Q0.length c4, Q0), (.slice a5 P.length c5, P), (.slice a6 P.length c6, P), (.slice a7 P0.length c7, P0), (.slice a8 P0.length c8, P0), (.slice a9 P.length c9, P), (.slice a10 Q.length c10, Q), (.slice a11 Q.length c11, Q), (.slice a12 Q0.length c12, Q0), (.slice a13 Q0.length c13, Q0), (.slice a14 Q.length c14, Q)]) w19) := S18.out.on hb
  clear hb S18
  go_wp2_with fail
  refine (SQ.out _ _ _ (S19.out.r.reads (i := 9) rfl) (S19.out.r.reads (i := 1) rfl)).mono ?_
  rintro e w20 ⟨rfl, hb⟩
  have S20 : Hid (Sd T w ([(.slice a1 P.length c1, P), (.slice a2 Q.length c2, Q), (.slice a3 P0.length c3, P0), (.slice a4 Q0.length c4, Q0), (.slice a5 P.length c5, P), (.slice a6 P.length c6, P), (.slice a7 P0.length c7, P0), (.slice a8 P0.length c8, P0), (.slice a9 P.length c9, P), (.slice a10 Q.length c10, Q), (.slice a11 Q.length c11, Q), (.slice a12 Q0.length c12, Q0), (.slice a13 Q0.length c13, Q0), (.slice a14 Q.length c14, Q)]) w20) := S19.out.on hb
  clear hb S19
  go_wp2_with fail
  refine (SQ.out _ _ _ (S20.out.r.reads (i := 10) rfl) (S20.out.r.reads (i := 1) rfl)).mono ?_
  rintro e w21 ⟨rfl, hb⟩
  have S21 : Hid (Sd T w ([(.slice a1 P.length c1, P), (.slice a2 Q.length c2, Q), (.slice a3 P0.length c3, P0), (.slice a4 Q0.length c4, Q0), (.slice a5 P.length c5, P), (.slice a6 P.length c6, P), (.slice a7 P0.length c7, P0), (.slice a8 P0.length c8, P0), (.slice a9 P.length c9, P), (.slice a10 Q.length c10, Q), (.slice a11 Q.length c11, Q), (.slice a12 Q0.length c12, Q0), (.slice a13 Q0.length c13, Q0), (.slice a14 Q.length c14, Q)]) w21) := S20.out.on hb
  clear hb S20
  go_wp2_with fail
  refine (SQ.out _ _ _ (S21.out.r.reads (i := 13) rfl) (S21.out.r.reads (i := 1) rfl)).mono ?_
  rintro e w22 ⟨rfl, hb⟩
  have S22 : Hid (Sd T w ([(.slice a1 P.length c1, P), (.slice a2 Q.length c2, Q), (.slice a3 P0.length c3, P0), (.slice a4 Q0.length c4, Q0), (.slice a5 P.length c5, P), (.slice a6 P.length c6, P), (.slice a7 P0.length c7, P0), (.slice a8 P0.length c8, P0), (.slice a9 P.length c9, P), (.slice a10 Q.length c10, Q), (.slice a11 Q.length c11, Q), (.slice a12 Q0.length c12, Q0), (.slice a13 Q0.length c13, Q0), (.slice a14 Q.length c14, Q)]) w22) := S21.out.on hb
  clear hb S21
  go_wp2_with fail
  refine (SQ0.out _ _ _ (S22.out.r.reads (i := 11) rfl) (S22.out.r.reads (i := 3) rfl)).mono ?_
  rintro e w23 ⟨rfl, hb⟩
  have S23 : Hid (Sd T w ([(.slice a1 P.length c1, P), (.slice a2 Q.length c2, Q), (.slice a3 P0.length c3, P0), (.slice a4 Q0.length c4, Q0), (.slice a5 P.length c5, P), (.slice a6 P.length c6, P), (.slice a7 P0.length c7, P0), (.slice a8 P0.length c8, P0), (.slice a9 P.length c9, P), (.slice a10 Q.length c10, Q), (.slice a11 Q.length c11, Q), (.slice a12 Q0.length c12, Q0), (.slice a13 Q0.length c13, Q0), (.slice a14 Q.length c14, Q)]) w23) := S22.out.on hb
  clear hb S22
  go_wp2_with fail
  refine (SQ0.out _ _ _ (S23.out.r.reads (i := 12) rfl) (S23.out.r.reads (i := 3) rfl)).mono ?_
  rintro e w24 ⟨rfl, hb⟩
  have S24 : Hid (Sd T w ([(.slice a1 P.length c1, P), (.slice a2 Q.length c2, Q), (.slice a3 P0.length c3, P0), (.slice a4 Q0.length c4, Q0), (.slice a5 P.length c5, P), (.slice a6 P.length c6, P), (.slice a7 P0.length c7, P0), (.slice a8 P0.length c8, P0), (.slice a9 P.length c9, P), (.slice a10 Q.length c10, Q), (.slice a11 Q.length c11, Q), (.slice a12 Q0.length c12, Q0), (.slice a13 Q0.length c13, Q0), (.slice a14 Q.length c14, Q)]) w24) := S23.out.on hb
  clear hb S23
  have HPM : Hid (List.Perm ([(.slice a1 P.length c1, P), (.slice a2 Q.length c2, Q), (.slice a3 P0.length c3, P0), (.slice a4 Q0.length c4, Q0), (.slice a5 P.length c5, P), (.slice a6 P.length c6, P), (.slice a7 P0.length c7, P0), (.slice a8 P0.length c8, P0), (.slice a9 P.length c9, P), (.slice a10 Q.length c10, Q), (.slice a11 Q.length c11, Q), (.slice a12 Q0.length c12, Q0), (.slice a13 Q0.length c13, Q0), (.slice a14 Q.length c14, Q)] : List (Value × List ByteArray)) ([(.slice a1 P.length c1, P), (.slice a2 Q.length c2, Q), (.slice a3 P0.length c3, P0), (.slice a4 Q0.length c4, Q0)] ++ [(.slice a5 P.length c5, P), (.slice a6 P.length c6, P), (.slice a9 P.length c9, P), (.slice a7 P0.length c7, P0), (.slice a8 P0.length c8, P0), (.slice a10 Q.length c10, Q), (.slice a11 Q.length c11, Q), (.slice a14 Q.length c14, Q), (.slice a12 Q0.length c12, Q0), (.slice a13 Q0.length c13, Q0)])) := by
    show List.Perm _ _
    refine .cons _ (.cons _ (.cons _ (.cons _ (.cons _ (.cons _ ?_)))))
    refine (List.perm_middle (l₁ := [_, _])).trans ?_
    refine .cons _ (.cons _ (.cons _ (.cons _ (.cons _ ?_))))
    exact List.perm_middle (l₁ := [_, _]) (l₂ := [])
  obtain ⟨F, HFF⟩ : ∃ F : List (Value × List ByteArray), Hid ([(.slice a1 P.length c1, P), (.slice a2 Q.length c2, Q), (.slice a3 P0.length c3, P0), (.slice a4 Q0.length c4, Q0)] = F) := ⟨_, rfl⟩
  have hF : F.length = 4 := by rw [← HFF.out]; rfl
  obtain ⟨V, HVV⟩ : ∃ V : List Value, Hid ([.slice a5 P.length c5, .slice a6 P.length c6, .slice a9 P.length c9, .slice a7 P0.length c7, .slice a8 P0.length c8, .slice a10 Q.length c10, .slice a11 Q.length c11, .slice a14 Q.length c14, .slice a12 Q0.length c12, .slice a13 Q0.length c13] = V) := ⟨_, rfl⟩
  have HVL : Hid (V.length = 10) := by show _ = _; rw [← HVV.out]; rfl
  have HVB : Hid (∀ (k : Nat) (a : Option Addr) (n c : Nat), V[k]? = some (Value.slice a n c) → n * 16 ≤ 140737488351232) := by
    show ∀ _, _
    intro k a n c h
    rw [← HVV.out] at h
    have hm := List.mem_of_getElem? h
    have hl := HLN.out
    simp only [List.mem_cons, List.not_mem_nil, or_false, Value.slice.injEq] at hm
    omega
  have HF0 : Hid (∀ M w', St T w F M V w24.heap.size w' → ReadsT w' (.slice a1 P.length c1) P) := fun M w' h => h.s.r.reads (i := 0) (by rw [← HFF.out]; rfl)
  have HF1 : Hid (∀ M w', St T w F M V w24.heap.size w' → ReadsT w' (.slice a2 Q.length c2) Q) := fun M w' h => h.s.r.reads (i := 1) (by rw [← HFF.out]; rfl)
  have HST0 : Hid (St T w F [(.slice a5 P.length c5, P), (.slice a6 P.length c6, P), (.slice a9 P.length c9, P), (.slice a7 P0.length c7, P0), (.slice a8 P0.length c8, P0), (.slice a10 Q.length c10, Q), (.slice a11 Q.length c11, Q), (.slice a14 Q.length c14, Q), (.slice a12 Q0.length c12, Q0), (.slice a13 Q0.length c13, Q0)] V w24.heap.size (w24.alloc (.cells #[.slice a5 P.length c5, .slice a6 P.length c6, .slice a9 P.length c9, .slice a7 P0.length c7, .slice a8 P0.length c8, .slice a10 Q.length c10, .slice a11 Q.length c11, .slice a14 Q.length c14, .slice a12 Q0.length c12, .slice a13 Q0.length c13] 22))) := by
    have h := (Go.Proofs.YtkanjkofdfmhhabDoor.jg.Sd.perm S24.out HPM.out).on (al w24 (.cells #[.slice a5 P.length c5, .slice a6 P.length c6, .slice a9 P.length c9, .slice a7 P0.length c7, .slice a8 P0.length c8, .slice a10 Q.length c10, .slice a11 Q.length c11, .slice a14 Q.length c14, .slice a12 Q0.length c12, .slice a13 Q0.length c13] 22))
    rw [HFF.out] at h
    refine ⟨h, by rw [← HVV.out]; rfl, ?_⟩
    rw [← HVV.out]
    exact heap_alloc_new _ _
  have OM : Hid (∀ (k : Nat) w', k ≤ 9 → Calls _ _ _ _ _) := fun k w' h => ownMark k h w'
  clear S24 HPM
  go_wp2
  go_loopw [41] (fun kk wr => ∃ (k : Nat) (M : List (Value × List ByteArray)), k ≤ 10 ∧ kk = .int .i64 k ∧ Hid (St T w F M V w24.heap.size wr ∧ Full M k)) (fun kk _ => (10 - intOf kk).toNat)
  case atStart => exact ⟨0, _, by omega, rfl, HST0.out, fun r p hr => by omega⟩
  case round =>
    clear HST0
    obtain ⟨k, M, hk, rfl, HL⟩ := hrel
    by_cases hlt : k < 10
    · have hlt' : (k : Int) < 10 := by omega
      have hk0 : (0 : Int) ≤ k := by omega
      obtain ⟨ts, av, cv, hmk, hvk, hrd, hg⟩ := HL.out.1.row k (by rw [HVL.out]; exact hlt)
      obtain ⟨nk, HNK⟩ : ∃ nk, Hid (ts.length = nk) := ⟨_, rfl⟩
      rw [HNK.out] at hmk hvk hg
      have HVK : Hid (V[k]? = some (.slice av nk cv)) := hvk
      have hb16 := HVB.out k _ _ _ hvk
      have HGG : Hid (nk = 0 ∨ ∃ g, av = some ⟨g, 0, none⟩) := hg
      have HM0 : Hid (St T w F M V w24.heap.size wr ∧ Full M k ∧ M[k]? = some (.slice av nk cv, ts) ∧ ts.length = nk ∧ ∀ i, i < 0 → ts.getD i ByteArray.empty = sl k) := ⟨HL.out.1, HL.out.2, hmk, HNK.out, fun i h => by omega⟩
      clear hmk hvk hrd hg HL
      go_wp2
      go_loopw [42] (fun jj wr => ∃ (j : Nat) (M : List (Value × List ByteArray)) (ts : List ByteArray), j ≤ nk ∧ jj = .int .i64 j ∧ Hid (St T w F M V w24.heap.size wr ∧ Full M k ∧ M[k]? = some (.slice av nk cv, ts) ∧ ts.length = nk ∧ ∀ i, i < j → ts.getD i ByteArray.empty = sl k)) (fun jj _ => (nk - intOf jj).toNat)
      case atStart => exact ⟨0, M, ts, by omega, rfl, HM0.out⟩
      case round =>
        clear HM0 HNK
        obtain ⟨j, M', ts', hj, rfl, HI⟩ := hrel
        have cA : wr.cell? ⟨w24.heap.size, k, none⟩ = some (.slice av nk cv) := HI.out.1.cell k _ HVK.out
        by_cases hjl : j < nk
        · have hjl' : (j : Int) < nk := by omega
          have hj0 : (0 : Int) ≤ j := by omega
          obtain ⟨g, rfl⟩ := HGG.out.resolve_left (by omega)
          obtain ⟨c0, fz⟩ := HI.out.1.s.text (at_four hF HI.out.2.2.1) HI.out.2.2.2.1 j hjl
          have hne : w24.heap.size ≠ g := HI.out.1.ne (HI.out.1.s.r.at (at_four hF HI.out.2.2.1))
          have OMk : Hid (∀ w', Calls _ _ _ _ _) := fun w' => OM.out k w' (by omega)
          have u1 := add_text (⟨#[47]⟩ : ByteArray) (mrk k) (by rw [mrk_size]; decide)
          have s0 : wr.cell? ⟨w24.heap.size, k, none⟩ = some (.slice (some ⟨g, 0, none⟩) nk cv) ∧ wr.cell? ⟨g, j, none⟩ = some (cur wr ⟨g, j, none⟩) ∧ wr.frozen? ⟨g, j, none⟩ = false := ⟨cA, cur_of c0, fz⟩
          clear c0 fz
          go_wp2_with fail
          go_region_held3 (fun w' => w'.cell? ⟨w24.heap.size, k, none⟩ = some (.slice (some ⟨g, 0, none⟩) nk cv) ∧ w'.cell? ⟨g, j, none⟩ = some (cur w' ⟨g, j, none⟩) ∧ w'.frozen? ⟨g, j, none⟩ = false) (first | exact s0 | exact three_on (by assumption) hb' | exact three_put (by assumption) _ hne) ((go_at_call 15; refine (OMk.out _).mono ?_; rintro e w' ⟨rfl, hb'⟩))
          have HP2 : Hid (St T w F (M'.set k (.slice (some ⟨g, 0, none⟩) nk cv, ts'.set j (sl k))) V w24.heap.size (w'.setCell ⟨g, j, none⟩ (.string ((⟨#[47]⟩ : ByteArray) ++ mrk k)))) := ((HI.out.1.on (d1 _)).on hb').put hF HI.out.2.2.1 HI.out.2.2.2.1 j (sl k)
          clear hb' s0 cA
          go_wp2
          go_roundw
          case rel =>
            refine ⟨j + 1, _, ts'.set j (sl k), by omega, by go_num, HP2.out, HI.out.2.1.set _, List.getElem?_set_self (List.getElem?_eq_some_iff.1 HI.out.2.2.1).1, by rw [List.length_set]; exact HI.out.2.2.2.1, fun i hi => ?_⟩
            rcases Nat.lt_or_ge i j with c | c
            · rw [List.getD_eq_getElem?_getD, List.getElem?_set_ne (by omega), ← List.getD_eq_getElem?_getD]
              exact HI.out.2.2.2.2 i c
            · obtain rfl : i = j := by omega
              rw [List.getD_eq_getElem?_getD, List.getElem?_set_self (by rw [HI.out.2.2.2.1]; exact hjl)]
              rfl
          case measure => simp [intOf]; omega
        · have hjl' : ¬ (j : Int) < nk := by omega
          go_wp2
          go_roundw
          case rel =>
            refine ⟨k + 1, M', by omega, by go_num, HI.out.1, HI.out.2.1.succ HI.out.2.2.1 (fun i hi => HI.out.2.2.2.2 i ?_)⟩
            have h1 : i < ts'.length := hi
            have h2 := HI.out.2.2.2.1
            omega
          case measure => simp [intOf]; omega
    · have hlt' : ¬ (k : Int) < 10 := by omega
      obtain rfl : k = 10 := by omega
      have HB0 : Hid (St T w F M V w24.heap.size wr) := HL.out.1
      have HFU : Hid (Full M 10) := HL.out.2
      clear HL
      go_wp2
      go_loopw [40, 43] (fun nn kk wr => ∃ (k s : Nat), k ≤ 10 ∧ kk = .int .i64 k ∧ nn = .int .i64 s ∧ 64 * k ≤ s ∧ s ≤ k * 8796093022272 ∧ Hid (St T w F M V w24.heap.size wr)) (fun _ kk _ => (10 - intOf kk).toNat)
      case atStart => exact ⟨0, 0, by omega, rfl, rfl, by omega, by omega, HB0.out⟩
      case round =>
        clear HB0
        obtain ⟨k, s, hk, rfl, rfl, hs1, hs2, HL⟩ := hrel
        by_cases hlt : k < 10
        · have hlt' : (k : Int) < 10 := by omega
          have hk0 : (0 : Int) ≤ k := by omega
          obtain ⟨ts, av, cv, hmk, hvk, hrd, hg⟩ := HL.out.row k (by rw [HVL.out]; exact hlt)
          obtain ⟨nk, HNK⟩ : ∃ nk, Hid (ts.length = nk) := ⟨_, rfl⟩
          rw [HNK.out] at hmk hvk
          have HVK : Hid (V[k]? = some (.slice av nk cv)) := hvk
          have hb16 := HVB.out k _ _ _ hvk
          obtain ⟨q, HQQ⟩ : ∃ q, Hid (nk + 64 = q) := ⟨_, rfl⟩
          have WD : Hid (∀ y w', St T w F M V w24.heap.size w' → Calls _ _ _ _ _) := fun y w' h => wide_of hF hmk HNK.out hb16 HQQ.out y w' h
          have hq1 : 64 ≤ q ∧ q ≤ 8796093022272 := by have := HQQ.out; omega
          have OMk : Hid (∀ w', Calls _ _ _ _ _) := fun w' => OM.out k w' (by omega)
          have u2 := add_text (⟨#[47, 47]⟩ : ByteArray) (mrk k) (by rw [mrk_size]; decide)
          have hw : IntKind.i64.wrap ((s : Int) + (q : Int)) = (s : Int) + q := by rw [IntKind.wrap_i64]; omega
          have s0 := sk_of HL.out hvk
          clear hmk hvk hrd hg hb16
          go_wp2_with fail
          go_region_held3 (fun w' => St T w F M V w24.heap.size w' ∧ w'.cell? ⟨w24.heap.size, k, none⟩ = some (.slice av nk cv)) (first | exact s0 | exact sk_on s0 HVK.out (d1 _) | exact sk_on (by assumption) HVK.out hb' | exact sk_of hs' HVK.out) (first | (go_at_call 15; refine (OMk.out _).mono ?_; rintro e w' ⟨rfl, hb'⟩) | (go_at_call 16; refine (WD.out _ _ (And.left (by assumption))).mono ?_; rintro e w'' ⟨rfl, hs'⟩))
          have HS2 : Hid (St T w F M V w24.heap.size w'') := hs'
          clear hs' hb' s0
          go_wp2
          go_roundw
          case rel => exact ⟨k + 1, s + q, by omega, by go_num, by go_num, by omega, by omega, HS2.out⟩
          case measure => simp [intOf]; omega
        · have hlt' : ¬ (k : Int) < 10 := by omega
          obtain rfl : k = 10 := by omega
          have hs640 : (640 : Int) ≤ s := by omega
          go_wp2_with fail
          refine (KPl.out _ _ HL.out.s).mono ?_
          rintro e w25 ⟨⟨u25, rfl, hu⟩, hb⟩
          have S25 : Hid (St T w F M V w24.heap.size w25) := HL.out.on hb
          have R25 : Hid (ReadsT w25 u25 P) := own_readsT hu
          clear hu hb HL
          go_wp2_with fail
          refine (KQl.out _ _ S25.out.s).mono ?_
          rintro e w26 ⟨⟨u26, rfl, hu⟩, hb⟩
          have S26 : Hid (St T w F M V w24.heap.size w26) := S25.out.on hb
          have R26 : Hid (ReadsT w26 u26 Q) := own_readsT hu
          have R25' : Hid (ReadsT w26 u25 P) := R25.out.later hb
          clear hu hb S25 R25
          go_wp2_with fail
          refine (SP.out _ _ _ R25'.out (HF0.out _ _ S26.out)).mono ?_
          rintro e w27 ⟨rfl, hb⟩
          have S27 : Hid (St T w F M V w24.heap.size w27) := S26.out.on hb
          have R27 : Hid (ReadsT w27 u26 Q) := R26.out.later hb
          clear hb S26 R26 R25'
          go_wp2_with fail
          refine (SQ.out _ _ _ R27.out (HF1.out _ _ S27.out)).mono ?_
          rintro e w28 ⟨rfl, hb⟩
          have S28 : Hid (St T w F M V w24.heap.size w28) := S27.out.on hb
          clear hb S27 R27
          go_wp2
          go_loopw [50] (fun kk wr => ∃ (k : Nat), k ≤ 10 ∧ kk = .int .i64 k ∧ Hid (St T w F M V w24.heap.size wr)) (fun kk _ => (10 - intOf kk).toNat)
          case atStart => exact ⟨0, by omega, rfl, S28.out⟩
          case round =>
            clear S28
            obtain ⟨k, hk, rfl, HL⟩ := hrel
            by_cases hlt : k < 10
            · have hlt' : (k : Int) < 10 := by omega
              have hk0 : (0 : Int) ≤ k := by omega
              obtain ⟨ts, av, cv, hmk, hvk, hrd, hg⟩ := HL.out.row k (by rw [HVL.out]; exact hlt)
              obtain ⟨nk, HNK⟩ : ∃ nk, Hid (ts.length = nk) := ⟨_, rfl⟩
              rw [HNK.out] at hmk hvk hg
              have HVK : Hid (V[k]? = some (.slice av nk cv)) := hvk
              have HMK : Hid (M[k]? = some (.slice av nk cv, ts)) := hmk
              have hb16 := HVB.out k _ _ _ hvk
              have HGG : Hid (nk = 0 ∨ ∃ g, av = some ⟨g, 0, none⟩) := hg
              have HFK : Hid (∀ j, j < nk → ts.getD j ByteArray.empty = sl k) := fun j hj => HFU.out k _ hlt hmk j (by show j < ts.length; rw [HNK.out]; exact hj)
              clear hmk hvk hrd hg
              go_wp2
              go_loopw [51] (fun jj wr => ∃ (j : Nat), j ≤ nk ∧ jj = .int .i64 j ∧ Hid (St T w F M V w24.heap.size wr)) (fun jj _ => (nk - intOf jj).toNat)
              case atStart => exact ⟨0, by omega, rfl, HL.out⟩
              case round =>
                clear HL
                obtain ⟨j, hj, rfl, HI⟩ := hrel
                have cA : wr.cell? ⟨w24.heap.size, k, none⟩ = some (.slice av nk cv) := HI.out.cell k _ HVK.out
                by_cases hjl : j < nk
                · have hjl' : (j : Int) < nk := by omega
                  have hj0 : (0 : Int) ≤ j := by omega
                  obtain ⟨g, rfl⟩ := HGG.out.resolve_left (by omega)
                  obtain ⟨c0, fz⟩ := HI.out.s.text (at_four hF HMK.out) HNK.out j hjl
                  rw [HFK.out j hjl] at c0
                  have OMk : Hid (∀ w', Calls _ _ _ _ _) := fun w' => OM.out k w' (by omega)
                  have u1 := add_text (⟨#[47]⟩ : ByteArray) (mrk k) (by rw [mrk_size]; decide)
                  obtain ⟨y, HY⟩ : ∃ y, Hid ((⟨#[47]⟩ : ByteArray) ++ mrk k = y) := ⟨_, rfl⟩
                  unfold sl at c0
                  rw [HY.out] at c0 u1
                  have s0 := And.intro cA c0
                  clear c0 fz cA
                  go_wp2_with fail
                  go_region_held3 (fun w' => w'.cell? ⟨w24.heap.size, k, none⟩ = some (.slice (some ⟨g, 0, none⟩) nk cv) ∧ w'.cell? ⟨g, j, none⟩ = some (.string y)) (first | exact s0 | exact two_on (by assumption) hb') ((go_at_call 15; refine (OMk.out _).mono ?_; rintro e w' ⟨rfl, hb'⟩))
                  have HS3 : Hid (St T w F M V w24.heap.size w') := (HI.out.on (d1 _)).on hb'
                  clear hb' s0
                  go_wp2
                  go_roundw
                  case rel => exact ⟨j + 1, by omega, by go_num, HS3.out⟩
                  case measure => simp [intOf]; omega
                · have hjl' : ¬ (j : Int) < nk := by omega
                  go_wp2
                  go_roundw
                  case rel => exact ⟨k + 1, by omega, by go_num, HI.out⟩
                  case measure => simp [intOf]; omega
            · have hlt' : ¬ (k : Int) < 10 := by omega
              obtain rfl : k = 10 := by omega
              go_wp2_with fail
              refine (RN.out _ HL.out.s.tt (HRD.out.later HL.out.s.b)).mono ?_
              rintro e w29 ⟨rfl, hb⟩
              have HZ : Hid (Below w.heap.size w w29) := over HL.out.s.b hb
              clear hb
              go_wp2
              go_ret
              exact ⟨rfl, HZ.out⟩
end Go.Proofs.YtkanjkofdfmhhabDoor.jf
