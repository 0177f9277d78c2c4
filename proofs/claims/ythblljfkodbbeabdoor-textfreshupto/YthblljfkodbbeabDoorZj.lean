import Derived.Test.YthblljfkodbbeabDoorZi
namespace Go.Proofs.YthblljfkodbbeabDoor.zj
open Go.RowKit Go.PlainAid
open Go.Proofs.YthblljfkodbbeabDoor.ta Go.Proofs.YthblljfkodbbeabDoor.tb Go.Proofs.YthblljfkodbbeabDoor.tc Go.Proofs.YthblljfkodbbeabDoor.te Go.Proofs.YthblljfkodbbeabDoor.tj Go.Proofs.YthblljfkodbbeabDoor.va Go.Proofs.YthblljfkodbbeabDoor.vb Go.Proofs.YthblljfkodbbeabDoor.vc Go.Proofs.YthblljfkodbbeabDoor.ya Go.Proofs.YthblljfkodbbeabDoor.yb Go.Proofs.YthblljfkodbbeabDoor.za Go.Proofs.YthblljfkodbbeabDoor.zb Go.Proofs.YthblljfkodbbeabDoor.zc Go.Proofs.YthblljfkodbbeabDoor.ze Go.Proofs.YthblljfkodbbeabDoor.zf Go.Proofs.YthblljfkodbbeabDoor.zg Go.Proofs.YthblljfkodbbeabDoor.zd Go.Proofs.YthblljfkodbbeabDoor.zh
set_option linter.unusedVariables false

-- no block in common
def Off (u v : Value) : Prop := ∀ g, u.ownBlock = some g → v.ownBlock ≠ some g
theorem Texts.put {w : World} {W k : Nat} {v : Value} {xs : List ByteArray} (h : Texts w W v xs) (hk : k < xs.length) : ∃ g, v = .slice (some ⟨g, 0, none⟩) xs.length xs.length ∧ W ≤ g ∧ w.cell? ⟨g, k, none⟩ = some (.string (xs.getD k ByteArray.empty)) ∧ w.frozen? ⟨g, k, none⟩ = false ∧ ∀ x, Texts (w.setCell ⟨g, k, none⟩ (.string x)) W v (xs.set k x) := by
  rcases h with ⟨_, rfl⟩ | ⟨g, rfl, hb, h1⟩
  · simp at hk
  · have L : Lst w g (.slice (some ⟨g, 0, none⟩) xs.length xs.length) xs := ⟨.inr ⟨rfl, h1⟩⟩
    obtain ⟨_, c, f⟩ := L.cell hk
    refine ⟨g, rfl, hb, c, f, fun x => ?_⟩
    rcases (L.set hk x).form with ⟨e, _⟩ | ⟨e, h2⟩
    · cases e
    · exact .inr ⟨g, e, hb, h2⟩
theorem Texts.off {w : World} {B k g : Nat} {v : Value} {xs : List ByteArray} (h : Texts w B v xs) (hne : v.ownBlock ≠ some g) (x : Value) : Texts (w.setCell ⟨g, k, none⟩ x) B v xs := by
  rcases h with h | ⟨g', rfl, hb, h1⟩
  · exact .inl h
  · exact .inr ⟨g', rfl, hb, (set_other w g k g' x (fun e => hne (by rw [e]; rfl))).trans h1⟩
theorem own_off {w : World} {B e size n k g : Nat} {v : Value} {xs : List Value} (h : w.ownsRow B e size v n xs) (hne : v.ownBlock ≠ some g) (x : Value) : (w.setCell ⟨g, k, none⟩ x).ownsRow B e size v n xs := by
  refine ⟨h.1, ?_⟩
  rcases h.2 with hn | ⟨g', cap, cur, rfl, hb, hgg, rest⟩
  · exact .inl hn
  · exact .inr ⟨g', cap, cur, rfl, hb, (set_other w g k g' x (fun e => hne (by rw [e]; rfl))).trans hgg, rest⟩
-- the three lists, and what the document says
structure Five (w : World) (W : Nat) (a b c m d : Value) (xa xb xc Y Z : List ByteArray) : Prop where
  ta : Texts w W a xa
  tb : Texts w W b xb
  tc : Texts w W c xc
  om : w.ownsRow W 9 1 m Y.length (Y.map Value.string)
  od : w.ownsRow W 9 1 d Z.length (Z.map Value.string)
  ab : Off a b
  ac : Off a c
  am : Off a m
  ad : Off a d
  bc : Off b c
  bm : Off b m
  bd : Off b d
  cm : Off c m
  cd : Off c d
theorem Off.symm {u v : Value} (h : Off u v) : Off v u := fun g h1 h2 => h g h2 h1
theorem Five.later {w w' : World} {W : Nat} {a b c m d : Value} {xa xb xc Y Z : List ByteArray} (h : Five w W a b c m d xa xb xc Y Z) (hb : Below w.heap.size w w') : Five w' W a b c m d xa xb xc Y Z :=
  ⟨h.ta.later hb, h.tb.later hb, h.tc.later hb, own_later h.om hb, own_later h.od hb, h.ab, h.ac, h.am, h.ad, h.bc, h.bm, h.bd, h.cm, h.cd⟩
theorem Five.setA {w : World} {W k : Nat} {a b c m d : Value} {xa xb xc Y Z : List ByteArray} (h : Five w W a b c m d xa xb xc Y Z) (hk : k < xa.length) : ∃ g, a = .slice (some ⟨g, 0, none⟩) xa.length xa.length ∧ W ≤ g ∧ w.cell? ⟨g, k, none⟩ = some (.string (xa.getD k ByteArray.empty)) ∧ w.frozen? ⟨g, k, none⟩ = false ∧ ∀ x, Five (w.setCell ⟨g, k, none⟩ (.string x)) W a b c m d (xa.set k x) xb xc Y Z := by
  obtain ⟨g, e, hW, c1, f1, st⟩ := Texts.put h.ta hk
  have hg : a.ownBlock = some g := by rw [e]; rfl
  exact ⟨g, e, hW, c1, f1, fun x => ⟨st x, Texts.off h.tb (h.ab g hg) _, Texts.off h.tc (h.ac g hg) _, own_off h.om (h.am g hg) _, own_off h.od (h.ad g hg) _, h.ab, h.ac, h.am, h.ad, h.bc, h.bm, h.bd, h.cm, h.cd⟩⟩
theorem Five.setB {w : World} {W k : Nat} {a b c m d : Value} {xa xb xc Y Z : List ByteArray} (h : Five w W a b c m d xa xb xc Y Z) (hk : k < xb.length) : ∃ g, b = .slice (some ⟨g, 0, none⟩) xb.length xb.length ∧ W ≤ g ∧ w.cell? ⟨g, k, none⟩ = some (.string (xb.getD k ByteArray.empty)) ∧ w.frozen? ⟨g, k, none⟩ = false ∧ ∀ x, Five (w.setCell ⟨g, k, none⟩ (.string x)) W a b c m d xa (xb.set k x) xc Y Z := by
  obtain ⟨g, e, hW, c1, f1, st⟩ := Texts.put h.tb hk
  have hg : b.ownBlock = some g := by rw [e]; rfl
  exact ⟨g, e, hW, c1, f1, fun x => ⟨Texts.off h.ta (h.ab.symm g hg) _, st x, Texts.off h.tc (h.bc g hg) _, own_off h.om (h.bm g hg) _, own_off h.od (h.bd g hg) _, h.ab, h.ac, h.am, h.ad, h.bc, h.bm, h.bd, h.cm, h.cd⟩⟩
theorem Five.setC {w : World} {W k : Nat} {a b c m d : Value} {xa xb xc Y Z : List ByteArray} (h : Five w W a b c m d xa xb xc Y Z) (hk : k < xc.length) : ∃ g, c = .slice (some ⟨g, 0, none⟩) xc.length xc.length ∧ W ≤ g ∧ w.cell? ⟨g, k, none⟩ = some (.string (xc.getD k ByteArray.empty)) ∧ w.frozen? ⟨g, k, none⟩ = false ∧ ∀ x, Five (w.setCell ⟨g, k, none⟩ (.string x)) W a b c m d xa xb (xc.set k x) Y Z := by
  obtain ⟨g, e, hW, c1, f1, st⟩ := Texts.put h.tc hk
  have hg : c.ownBlock = some g := by rw [e]; rfl
  exact ⟨g, e, hW, c1, f1, fun x => ⟨Texts.off h.ta (h.ac.symm g hg) _, Texts.off h.tb (h.bc.symm g hg) _, st x, own_off h.om (h.cm g hg) _, own_off h.od (h.cd g hg) _, h.ab, h.ac, h.am, h.ad, h.bc, h.bm, h.bd, h.cm, h.cd⟩⟩
theorem five {w w1 w2 w3 w4 w5 w6 : World} {a b c m d : Value} {Y Z : List ByteArray} (b1 : Below w.heap.size w w1) (ta : Texts w1 w.heap.size a Y) (b2 : Below w1.heap.size w1 w2) (tb : Texts w2 w1.heap.size b Z)
    (b3 : Below w2.heap.size w2 w3) (tc : Texts w3 w2.heap.size c Y) (b4 : Below w3.heap.size w3 w4) (om : w4.ownsRow w3.heap.size 9 1 m Y.length (Y.map Value.string)) (b5 : Below w4.heap.size w4 w5) (od : w5.ownsRow w4.heap.size 9 1 d Z.length (Z.map Value.string)) (b6 : Below w5.heap.size w5 w6) :
    Five w6 w.heap.size a b c m d Y Z Y Y Z := by
  have s1 := b1.size
  have s2 := b2.size
  have s3 := b3.size
  have s4 := b4.size
  have s5 := b5.size
  have off : ∀ (u v : Value) (x y : Nat), (∀ g, u.ownBlock = some g → g < x) → (∀ g, v.ownBlock = some g → y ≤ g) → x ≤ y → Off u v := by
    intro u v x y h1 h2 h3 g e1 e2
    have := h1 g e1
    have := h2 g e2
    omega
  have pa := fun g e => (Texts.lt ta (g := g) e).2
  have pb := fun g e => (Texts.lt tb (g := g) e).2
  have pc := fun g e => (Texts.lt tc (g := g) e).2
  have qb := fun g e => (Texts.lt tb (g := g) e).1
  have qc := fun g e => (Texts.lt tc (g := g) e).1
  have qm := fun g e => (om.lt g e).1
  have qd := fun g e => (od.lt g e).1
  refine ⟨((((ta.later b2).later b3).later b4).later b5).later b6, Texts.down ((((tb.later b3).later b4).later b5).later b6) (by omega), Texts.down (((tc.later b4).later b5).later b6) (by omega), own_down (own_later (own_later om b5) b6) (by omega), own_down (own_later od b6) (by omega), ?_, ?_, ?_, ?_, ?_, ?_, ?_, ?_, ?_⟩
  · exact off _ _ _ _ pa qb (by omega)
  · exact off _ _ _ _ pa qc (by omega)
  · exact off _ _ _ _ pa qm (by omega)
  · exact off _ _ _ _ pa qd (by omega)
  · exact off _ _ _ _ pb qc (by omega)
  · exact off _ _ _ _ pb qm (by omega)
  · exact off _ _ _ _ pb qd (by omega)
  · exact off _ _ _ _ pc qm (by omega)
  · exact off _ _ _ _ pc qd (by omega)
-- a list's cells, for a copy of it
theorem texts_olds {w : World} {B n : Nat} {a : Option Addr} {xs : List ByteArray} (h : Texts w B (.slice a n n) xs) : xs.length = n ∧ (a = none → n = 0 ∧ n = 0) ∧ ∀ b, a = some b → ∀ (j : Nat) (u : Value), (xs.map Value.string)[j]? = some u → w.cell? (b.add j) = some u := by
  rcases h with ⟨e, rfl⟩ | ⟨g, e, hb, h1⟩
  · injection e with e1 e2 e3
    subst e1 e2
    exact ⟨rfl, fun _ => ⟨rfl, rfl⟩, fun b hb => by cases hb⟩
  · injection e with e1 e2 e3
    subst e1
    refine ⟨e2.symm, (fun h => by cases h), fun b e j u hu => ?_⟩
    obtain rfl := Option.some.inj e
    have hj : j < xs.length := by
      have := (List.getElem?_eq_some_iff.1 hu).1
      simpa using this
    rw [show (Addr.add ⟨g, 0, none⟩ j) = ⟨g, j, none⟩ by cases j <;> simp [Addr.add], cell_of_row _ _ _ _ _ _ h1, srow_get, ← hu, List.getElem?_map]
def four (M : ByteArray) : List Value := [.string M, .string M, .string M, .string M]
theorem four_cells (w : World) (M : ByteArray) : ∀ (j : Nat) (u : Value), (four M)[j]? = some u → (w.alloc (.cells #[.string M, .string M, .string M, .string M] 9)).cell? (Addr.add ⟨w.heap.size, 0, none⟩ j) = some u := by
  intro j u hu
  rw [show (Addr.add ⟨w.heap.size, 0, none⟩ j) = ⟨w.heap.size, j, none⟩ by cases j <;> simp [Addr.add], World.cell?_alloc_at _ _ _ _ rfl]
  unfold four at hu
  simpa using hu
theorem four_one (M : ByteArray) : ∀ u ∈ four M, u.oneCell' = true := by
  intro u hu
  unfold four at hu
  simp at hu
  subst hu
  rfl
theorem four_rep (M : ByteArray) (n : Nat) : (List.replicate n M).map Value.string ++ four M = (List.replicate (n + 4) M).map Value.string := by
  have : four M = (List.replicate 4 M).map Value.string := rfl
  rw [this, ← List.map_append, List.replicate_append_replicate]
end Go.Proofs.YthblljfkodbbeabDoor.zj
