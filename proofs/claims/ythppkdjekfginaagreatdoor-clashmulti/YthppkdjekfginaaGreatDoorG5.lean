import Derived.Test.YthppkdjekfginaaGreatDoorG4
import Derived.Test.YthppkdjekfginaaGreatDoorG1
import Derived.Lib.SliceRun
import Derived.BigQuiet
import Derived.Test.YthppkdjekfginaaGreatDoorG3
import Derived.Deep.DeepCutAuto
namespace Go.Proofs.YthppkdjekfginaaGreatDoor.qa
open Go.RowKit Go.PlainAid
open Go.Proofs.YthppkdjekfginaaGreatDoor.ca Go.Proofs.YthppkdjekfginaaGreatDoor.cp Go.Proofs.YthppkdjekfginaaGreatDoor.ka Go.Proofs.YthppkdjekfginaaGreatDoor.kp
set_option linter.unusedVariables false

-- a list of texts in old memory
def Old (base : Nat) (w : World) (v : Value) (l : List ByteArray) : Prop :=
  ∃ a cap, v = .slice a l.length cap ∧ l.length ≤ cap ∧ (l.length = 0 ∨ ∃ g off, a = some ⟨g, off, none⟩ ∧ g < base ∧ ∀ i, i < l.length → w.cell? ⟨g, off + i, none⟩ = some (.string (l.getD i ByteArray.empty)))
theorem Old.keep {base : Nat} {w w' : World} {v : Value} {l : List ByteArray} (h : Old base w v l) {G : Nat → Prop} (k : Kp G w w') (hg : ∀ b, G b → base ≤ b) : Old base w' v l := by
  obtain ⟨a, cap, rfl, hc, h0 | ⟨g, off, rfl, hl, hh⟩⟩ := h
  · exact ⟨a, cap, rfl, hc, .inl h0⟩
  · exact ⟨_, cap, rfl, hc, .inr ⟨g, off, rfl, hl, fun i hi => k.cell (hh i hi) (fun e => by have := hg _ e; omega)⟩⟩
theorem Old.of {w : World} {v : Value} {l : List ByteArray} (h : ReadsT w v l) : Old w.heap.size w v l := by
  obtain ⟨a, cap, rfl, hc, h0 | ⟨g, off, rfl, hh⟩⟩ := h
  · exact ⟨a, cap, rfl, hc, .inl h0⟩
  · by_cases h0 : l.length = 0
    · exact ⟨_, cap, rfl, hc, .inl h0⟩
    · exact ⟨_, cap, rfl, hc, .inr ⟨g, off, rfl, World.block_lt_of_cell? _ _ (hh 0 (by omega)), hh⟩⟩
-- a pile
structure Pile (base pb : Nat) (l : List ByteArray) (w : World) : Prop where
  new : base ≤ pb
  box : ∃ v, w.heap[pb]? = some (.cells #[v] 74 (0, 0)) ∧ Old base w v l
theorem Pile.keep {base pb : Nat} {l : List ByteArray} {w w' : World} (h : Pile base pb l w) {G : Nat → Prop} (k : Kp G w w') (hg : ∀ b, G b → base ≤ b) (hp : ¬ G pb) : Pile base pb l w' := by
  obtain ⟨v, hv, ho⟩ := h.box
  exact ⟨h.new, v, (k.block _ (Array.getElem?_eq_some_iff.1 hv).1 hp).trans hv, ho.keep k hg⟩
theorem Pile.lt {base pb : Nat} {l : List ByteArray} {w : World} (h : Pile base pb l w) : pb < w.heap.size := by
  obtain ⟨v, hv, _⟩ := h.box
  exact (Array.getElem?_eq_some_iff.1 hv).1
theorem nextC (base pb : Nat) (h : ByteArray) (t : List ByteArray) (w : World) (hP : Pile base pb (h :: t) w) :
    Calls Tryz.prog 48 #[.pointer (some ⟨pb, 0, none⟩)] w fun e w' => e = .returned (.string h) ∧ Pile base pb t w' ∧ Kp (fun b => b = pb) w w' := by
  obtain ⟨hnew, v, hv0, a, cap, rfl, hcap, hh⟩ := hP
  rw [List.length_cons] at hv0 hcap hh
  obtain ⟨g, off, rfl, hg, hc⟩ := hh.resolve_left (by omega)
  have c0 : w.cell? ⟨pb, 0, none⟩ = some (.slice (some ⟨g, off, none⟩) (t.length + 1) cap) := cell_of_row _ _ 0 _ _ _ hv0
  have f0 := frozen_of_row _ _ 0 _ _ hv0
  have x0 := hc 0 (by omega)
  rw [Nat.add_zero] at x0
  have x1 : w.cell? ⟨g, off, none⟩ = some (.string h) := x0
  have HV : Hid (w.heap[pb]? = _) := hv0
  have HC : Hid (∀ i, i < t.length → w.cell? ⟨g, off + 1 + i, none⟩ = some (.string (t.getD i ByteArray.empty))) := fun i hi => by
    have := hc (i + 1) (by omega)
    rw [show off + 1 + i = off + (i + 1) by omega, this]
    rfl
  obtain ⟨n, HN⟩ : ∃ n, Hid (t.length = n) := ⟨_, rfl⟩
  have HP : Hid (∀ (aa : Option Addr), (t.length = 0 ∨ aa = some ⟨g, off + 1, none⟩) → Pile base pb t (w.setCell ⟨pb, 0, none⟩ (.slice aa t.length (cap - 1)))) := by
    intro aa haa
    have hk : Kp (fun q => q = pb) w (w.setCell ⟨pb, 0, none⟩ (.slice aa t.length (cap - 1))) := Kp.setCell _ _ _ _ rfl
    refine ⟨hnew, _, heap_setCell_same _ _ 0 _ _ _ HV.out, aa, cap - 1, rfl, by omega, ?_⟩
    rcases haa with h | h
    · exact .inl h
    · exact .inr ⟨g, off + 1, h, hg, fun i hi => hk.cell (HC.out i hi) (fun e => by omega)⟩
  have HK : Hid (∀ v, Kp (fun b => b = pb) w (w.setCell ⟨pb, 0, none⟩ v)) := fun v => Kp.setCell _ _ _ _ rfl
  have hgp : g ≠ pb := by omega
  have hn1 : ((n : Int) + 1) - 1 = n := by omega
  rw [HN.out] at c0 HP hcap
  clear hv0 hh hc x0 hnew hg
  by_cases hc1 : cap = 1
  · subst hc1
    obtain rfl : n = 0 := by omega
    go_enter Tryz.func48, Tryz.ntmps48
    go_wp2
    go_ret
    exact ⟨rfl, HP.out _ (.inl (by first | rfl | trivial)), HK.out _⟩
  · go_enter Tryz.func48, Tryz.ntmps48
    go_wp2
    go_ret
    exact ⟨rfl, by simpa using HP.out _ (.inr rfl), by simpa using HK.out _⟩
end Go.Proofs.YthppkdjekfginaaGreatDoor.qa

namespace Go.Proofs.YthppkdjekfginaaGreatDoor.qb
open Go.RowKit Go.PlainAid
open Go.Proofs.YthppkdjekfginaaGreatDoor.pl Go.Proofs.YthppkdjekfginaaGreatDoor.pi Go.Proofs.YthppkdjekfginaaGreatDoor.pj Go.Proofs.YthppkdjekfginaaGreatDoor.rf Go.Proofs.YthppkdjekfginaaGreatDoor.ca Go.Proofs.YthppkdjekfginaaGreatDoor.cb Go.Proofs.YthppkdjekfginaaGreatDoor.cp Go.Proofs.YthppkdjekfginaaGreatDoor.ga Go.Proofs.YthppkdjekfginaaGreatDoor.aa Go.Proofs.YthppkdjekfginaaGreatDoor.ba Go.Proofs.YthppkdjekfginaaGreatDoor.bb Go.Proofs.YthppkdjekfginaaGreatDoor.ka Go.Proofs.YthppkdjekfginaaGreatDoor.kb Go.Proofs.YthppkdjekfginaaGreatDoor.kc Go.Proofs.YthppkdjekfginaaGreatDoor.kp Go.Proofs.YthppkdjekfginaaGreatDoor.lk Go.Proofs.YthppkdjekfginaaGreatDoor.wt Go.Proofs.YthppkdjekfginaaGreatDoor.qa
set_option linter.unusedVariables false

-- the steps that are claimed, for proved ones
def fl (lk : Nat → Nat → Nat) (a b : Nat) : Nat := if lk a b = 0 then 1 else if lk a b = 1 then 0 else lk a b
theorem fl_two {lk : Nat → Nat → Nat} {a b : Nat} (h : 2 ≤ lk a b) : fl lk a b = lk a b := by unfold fl; rw [if_neg (by omega), if_neg (by omega)]
-- what is reckoned: the shape's mind, what is claimed, what is proved
def WS (wd : Int) (lk : Nat → Nat → Nat) (cur : Nat → Nat) : Wy (Nat × List ByteArray × List ByteArray) ByteArray where
  lk := fun x a b => (lk a b, if lk a b < 2 then cur b else x.1, x.2.1, x.2.2)
  hv := fun x a b s => if s = 0 then (x.2.1.headD ByteArray.empty, x.1, x.2.1.drop 1, x.2.2) else (x.2.2.headD ByteArray.empty, x.1, x.2.1, x.2.2.drop 1)
  jn := NF wd
theorem go_state (wd : Int) {lk : Nat → Nat → Nat} {cur : Nat → Nat} (hw : ∀ {a b}, a < b → 2 ≤ lk a b → 2 ≤ b - a) (hf : ∀ a b, lk a b ≤ 3) (ht : ∀ {a b}, lk a b = 3 → ∀ p, cur p = cur 0) (n : Nat) :
    ∀ a b c p, b - a = n → a < b → (go (WS wd lk cur) (cur a, c, p) a b).2 = (cur b, c.drop (WL (fl lk) a b).length, p.drop (WL lk a b).length) := by
  induction n using Nat.strongRecOn with
  | ind n ih =>
    intro a b c p hn hab
    have h3 := hf a b
    rcases (show lk a b = 0 ∨ lk a b = 1 ∨ lk a b = 2 ∨ lk a b = 3 by omega) with h | h | h | h
    · have e : (WS wd lk cur).lk (cur a, c, p) a b = (0, cur b, c, p) := by show (lk a b, _) = _; rw [h]; rfl
      rw [go_stop (by rw [e]; show 0 < 2; omega), e, WL_pass h, WL_take (lk := fl lk) (by unfold fl; rw [if_pos h])]
      rfl
    · have e : (WS wd lk cur).lk (cur a, c, p) a b = (1, cur b, c, p) := by show (lk a b, _) = _; rw [h]; rfl
      rw [go_stop (by rw [e]; show 1 < 2; omega), e, WL_take h, WL_pass (lk := fl lk) (by unfold fl; rw [if_neg (by omega), if_pos h])]
      rfl
    · have h2 := hw hab (by omega)
      have hh := half_lt h2
      have e : (WS wd lk cur).lk (cur a, c, p) a b = (2, cur a, c, p) := by show (lk a b, _) = _; rw [h]; rfl
      rw [go_left (by rw [e]) h2, e]
      simp only
      rw [ih (half (b - a)) (by omega) a (a + half (b - a)) c p (by omega) (by omega), ih (b - a - half (b - a)) (by omega) (a + half (b - a)) b _ _ (by omega) (by omega), WL_left h h2, WL_left (lk := fl lk) (by rw [fl_two (by omega)]; exact h) h2, List.length_append, List.length_append, List.drop_drop, List.drop_drop]
    · have h2 := hw hab (by omega)
      have hh := half_lt h2
      have hc := ht h
      have e : (WS wd lk cur).lk (cur a, c, p) a b = (3, cur (a + half (b - a)), c, p) := by show (lk a b, _) = _; rw [h]; show (3, cur a, c, p) = _; rw [hc a, hc (a + half (b - a))]
      rw [go_right (by rw [e]; exact Nat.le_refl _) h2, e]
      simp only
      rw [ih (b - a - half (b - a)) (by omega) (a + half (b - a)) b c p (by omega) (by omega), show cur b = cur a by rw [hc a, hc b], ih (half (b - a)) (by omega) a (a + half (b - a)) _ _ (by omega) (by omega), WL_right (lk := lk) (by omega) h2, WL_right (lk := fl lk) (by rw [fl_two (by omega)]; omega) h2, List.length_append, List.length_append, List.drop_drop, List.drop_drop, show cur (a + half (b - a)) = cur a by rw [hc a, hc (a + half (b - a))]]
-- all texts have the width's bytes
def Wide (wd : Int) (l : List ByteArray) : Prop := ∀ h ∈ l, h.size = wid wd
theorem Wide.drop {wd : Int} {l : List ByteArray} (h : Wide wd l) (k : Nat) : Wide wd (l.drop k) := fun x hx => h x (List.mem_of_mem_drop hx)
theorem Wide.head {wd : Int} {l : List ByteArray} (h : Wide wd l) (h1 : 1 ≤ l.length) : (l.headD ByteArray.empty).size = wid wd := by
  cases l with
  | nil => simp at h1
  | cons x t => exact h x (by simp)
theorem wid_le (wd : Int) : wid wd ≤ 32 := by unfold wid; split <;> omega
def PS (wd : Int) (lk : Nat → Nat → Nat) (cur : Nat → Nat) (x : Nat × List ByteArray × List ByteArray) (a b : Nat) : Prop :=
  x.1 = cur a ∧ a < b ∧ b ≤ 4611686018427387904 ∧ (WL (fl lk) a b).length ≤ x.2.1.length ∧ (WL lk a b).length ≤ x.2.2.length ∧ Wide wd x.2.1 ∧ Wide wd x.2.2
-- the world of a reckoning
structure SR (base cb pb k1 k2 wb : Nat) (wd : Int) (D F : Nat → Prop) (SS : Nat → World → Prop) (x : Nat × List ByteArray × List ByteArray) (w : World) : Prop where
  ss : SS x.1 w
  cp : Pile base cb x.2.1 w
  pp : Pile base pb x.2.2 w
  b1 : w.cell? ⟨k1, 0, none⟩ = some (.func (.func 48) #[.pointer (some ⟨cb, 0, none⟩)] #[])
  b2 : w.cell? ⟨k2, 0, none⟩ = some (.func (.func 48) #[.pointer (some ⟨pb, 0, none⟩)] #[])
  bw : w.cell? ⟨wb, 0, none⟩ = some (.int .i64 wd)
  tab : Tab w
  big : 4 ≤ base ∧ base ≤ w.heap.size
  ne : cb ≠ pb ∧ k1 ≠ cb ∧ k1 ≠ pb ∧ k2 ≠ cb ∧ k2 ≠ pb ∧ wb ≠ cb ∧ wb ≠ pb ∧ ¬ D cb ∧ ¬ D pb ∧ ¬ F k1 ∧ ¬ F k2 ∧ ¬ F wb
  fb : ∀ b, F b → base ≤ b
section
variable {base cb pb k1 k2 wb : Nat} {wd : Int} {D F : Nat → Prop} {SS : Nat → World → Prop} {lk : Nat → Nat → Nat} {cur : Nat → Nat} {lg : Nat} {lv : Array Value}
theorem SR.later (S : Shp D F SS lk cur lg lv) {x : Nat × List ByteArray × List ByteArray} {w w' : World} (h : SR base cb pb k1 k2 wb wd D F SS x w) (hb : Below w.heap.size w w') : SR base cb pb k1 k2 wb wd D F SS x w' :=
  have k : Kp no w w' := Kp.of_below hb
  ⟨S.later h.ss hb, h.cp.keep k (fun _ e => e.elim) (fun e => e), h.pp.keep k (fun _ e => e.elim) (fun e => e), k.cell h.b1 (fun e => e), k.cell h.b2 (fun e => e), k.cell h.bw (fun e => e), h.tab.down hb, ⟨h.big.1, Nat.le_trans h.big.2 hb.size⟩, h.ne, h.fb⟩
def FF (F : Nat → Prop) (cb pb : Nat) : Nat → Prop := fun b => F b ∨ b = cb ∨ b = pb
set_option maxHeartbeats 800000 in
theorem haveS (S : Shp D F SS lk cur lg lv) (x : Nat × List ByteArray × List ByteArray) (a b s : Nat) (hs : s < 2) (w : World) (h : SR base cb pb k1 k2 wb wd D F SS x w) (hc : s = 0 → 1 ≤ x.2.1.length) (hp : s = 1 → 1 ≤ x.2.2.length) :
    Calls Tryz.prog 124 #[.agg #[.int .i64 a, .int .i64 b], .int .i64 s, .pointer (some ⟨k1, 0, none⟩), .pointer (some ⟨k2, 0, none⟩)] w fun e w' => e = .returned (.string ((WS wd lk cur).hv x a b s).1) ∧ SR base cb pb k1 k2 wb wd D F SS ((WS wd lk cur).hv x a b s).2 w' ∧ Kp (FF F cb pb) w w' := by
  have BA : Hid (Below w.heap.size w (w.alloc (.cells #[.int .i64 a, .int .i64 b] 117))) := (Below.refl _ _).alloc (Nat.le_refl _) _
  have HA : Hid (SR base cb pb k1 k2 wb wd D F SS x (w.alloc (.cells #[.int .i64 a, .int .i64 b] 117))) := h.later S BA.out
  have c1 := HA.out.b1
  have c2 := HA.out.b2
  obtain ⟨m, c, p⟩ := x
  have HN : Hid (_ ∧ _) := h.ne
  rcases (show s = 0 ∨ s = 1 by omega) with rfl | rfl
  · obtain ⟨y, t, rfl⟩ : ∃ y t, c = y :: t := by
      cases c with
      | nil => have := hc rfl; simp at this
      | cons y t => exact ⟨y, t, rfl⟩
    have NC : Hid (Calls _ _ _ _ _) := nextC base cb y t _ HA.out.cp
    have e : (WS wd lk cur).hv (m, y :: t, p) a b 0 = (y, m, t, p) := rfl
    rw [e]
    clear h hc hp e
    go_enter Tryz.func124, Tryz.ntmps124
    go_wp2_with fail
    refine NC.out.mono ?_
    rintro e w1 ⟨rfl, hp1, hk1⟩
    have G : Hid (SR base cb pb k1 k2 wb wd D F SS (m, t, p) w1 ∧ Kp (FF F cb pb) w w1) := by
      obtain ⟨n1, n2, n3, n4, n5, n6, n7, n8, n9, n10, n11, n12⟩ := HN.out
      have hb : Below base (w.alloc (.cells #[.int .i64 a, .int .i64 b] 117)) w1 := hk1.below (fun b e => by subst e; exact hp1.new) HA.out.big.2
      refine ⟨⟨S.keep HA.out.ss hk1 (fun b e => by subst e; exact n8), hp1, HA.out.pp.keep hk1 (fun b e => by subst e; exact hp1.new) (fun e => n1 e.symm), hk1.cell HA.out.b1 n2, hk1.cell HA.out.b2 n4, hk1.cell HA.out.bw n6, HA.out.tab.below hb HA.out.big.1, ⟨HA.out.big.1, Nat.le_trans HA.out.big.2 hk1.size⟩, ⟨n1, n2, n3, n4, n5, n6, n7, n8, n9, n10, n11, n12⟩, HA.out.fb⟩, ?_⟩
      exact (Kp.of_below BA.out).trans (hk1.mono fun b e => .inr (.inl e))
    clear hp1 hk1 c1 c2
    go_wp2
    go_ret
    exact ⟨rfl, G.out.1, G.out.2⟩
  · obtain ⟨y, t, rfl⟩ : ∃ y t, p = y :: t := by
      cases p with
      | nil => have := hp rfl; simp at this
      | cons y t => exact ⟨y, t, rfl⟩
    have NC : Hid (Calls _ _ _ _ _) := nextC base pb y t _ HA.out.pp
    have e : (WS wd lk cur).hv (m, c, y :: t) a b 1 = (y, m, c, t) := rfl
    rw [e]
    clear h hc hp e
    go_enter Tryz.func124, Tryz.ntmps124
    go_wp2_with fail
    refine NC.out.mono ?_
    rintro e w1 ⟨rfl, hp1, hk1⟩
    have G : Hid (SR base cb pb k1 k2 wb wd D F SS (m, c, t) w1 ∧ Kp (FF F cb pb) w w1) := by
      obtain ⟨n1, n2, n3, n4, n5, n6, n7, n8, n9, n10, n11, n12⟩ := HN.out
      have hb : Below base (w.alloc (.cells #[.int .i64 a, .int .i64 b] 117)) w1 := hk1.below (fun b e => by subst e; exact hp1.new) HA.out.big.2
      refine ⟨⟨S.keep HA.out.ss hk1 (fun b e => by subst e; exact n9), HA.out.cp.keep hk1 (fun b e => by subst e; exact hp1.new) (fun e => n1 e), hp1, hk1.cell HA.out.b1 n3, hk1.cell HA.out.b2 n5, hk1.cell HA.out.bw n7, HA.out.tab.below hb HA.out.big.1, ⟨HA.out.big.1, Nat.le_trans HA.out.big.2 hk1.size⟩, ⟨n1, n2, n3, n4, n5, n6, n7, n8, n9, n10, n11, n12⟩, HA.out.fb⟩, ?_⟩
      exact (Kp.of_below BA.out).trans (hk1.mono fun b e => .inr (.inr e))
    clear hp1 hk1 c1 c2
    go_wp2
    go_ret
    exact ⟨rfl, G.out.1, G.out.2⟩
theorem joinS (l r : ByteArray) (hl : l.size = wid wd) (hr : r.size = wid wd) (w : World) (hw : w.cell? ⟨wb, 0, none⟩ = some (.int .i64 wd)) (hT : Tab w) :
    Calls Tryz.prog 126 #[.string l, .string r, .pointer (some ⟨wb, 0, none⟩)] w fun e w' => e = .returned (.string (NF wd l r)) ∧ Below w.heap.size w w' := by
  have h32 := wid_le wd
  have NC : Hid (Calls _ _ _ _ _) := pNode wd l r (by omega) w hT
  obtain ⟨y, HY⟩ : ∃ y, Hid (NF wd l r = y) := ⟨_, rfl⟩
  rw [HY.out] at NC ⊢
  clear h32 hl hr
  go_enter Tryz.func126, Tryz.ntmps126
  go_wp2_with fail
  refine NC.out.mono ?_
  rintro e w1 ⟨rfl, hb⟩
  have B1 : Hid (Below w.heap.size w w1) := hb
  clear hb
  go_wp2
  go_ret
  exact ⟨rfl, B1.out⟩
theorem NF_size (wd : Int) (l r : ByteArray) : (NF wd l r).size = wid wd := cutS_size _ _
theorem KS (S : Shp D F SS lk cur lg lv) (hd : ∀ b, F b → D b) : Wk (FF F cb pb) (SR base cb pb k1 k2 wb wd D F SS) (fun v : ByteArray => Value.string v) (WS wd lk cur) (PS wd lk cur) (fun v => v.size = wid wd) lg 124 126 lv #[.pointer (some ⟨k1, 0, none⟩), .pointer (some ⟨k2, 0, none⟩)] #[.pointer (some ⟨wb, 0, none⟩)] where
  lent := S.enter
  hent := fun args w => by simp [go_sem]
  jent := fun args w => by simp [go_sem]
  later := fun h b => h.later S b
  fl := fun h b hb => by
    rcases hb with hb | rfl | rfl
    · exact S.fl h.ss b (hd b hb)
    · exact h.cp.lt
    · exact h.pp.lt
  look := fun x a b w hab hb hP hS => by
    obtain ⟨m, c, p⟩ := x
    obtain ⟨rfl, _⟩ := hP
    refine (S.call a b w hab hb hS.ss).mono fun e w' hh => ?_
    obtain ⟨h1, h2, h3⟩ := hh
    obtain ⟨n1, n2, n3, n4, n5, n6, n7, n8, n9, n10, n11, n12⟩ := hS.ne
    have hb' : Below base w w' := h3.below hS.fb hS.big.2
    refine ⟨h1, ⟨h2, hS.cp.keep h3 hS.fb (fun e => n8 (hd _ e)), hS.pp.keep h3 hS.fb (fun e => n9 (hd _ e)), h3.cell hS.b1 n10, h3.cell hS.b2 n11, h3.cell hS.bw n12, hS.tab.below hb' hS.big.1, ⟨hS.big.1, Nat.le_trans hS.big.2 h3.size⟩, hS.ne, hS.fb⟩, h3.mono fun b e => .inl e⟩
  have' := fun x a b w hab hb hP h hS => by
    obtain ⟨m, c, p⟩ := x
    obtain ⟨rfl, _, _, q1, q2, _, _⟩ := hP
    refine haveS S _ a b (lk a b) h w hS (fun e => ?_) (fun e => ?_)
    · rw [WL_take (lk := qb.fl lk) (by unfold qb.fl; rw [if_pos e])] at q1; exact q1
    · rw [WL_take e] at q2; exact q2
  join := fun l r x w hl hr hS => joinS l r hl hr w hS.bw hS.tab
  qh := fun {x a b} hab hP h => by
    obtain ⟨m, c, p⟩ := x
    obtain ⟨rfl, _, _, q1, q2, q3, q4⟩ := hP
    have h' : lk a b < 2 := h
    rcases (show lk a b = 0 ∨ lk a b = 1 by omega) with e | e
    · have z : (WS wd lk cur).lk (cur a, c, p) a b = (0, cur b, c, p) := by show (lk a b, _) = _; rw [e]; rfl
      rw [z]
      rw [WL_take (lk := qb.fl lk) (by unfold qb.fl; rw [if_pos e])] at q1
      exact q3.head q1
    · have z : (WS wd lk cur).lk (cur a, c, p) a b = (1, cur b, c, p) := by show (lk a b, _) = _; rw [e]; rfl
      rw [z]
      rw [WL_take e] at q2
      exact q4.head q2
  qj := fun _ _ => NF_size _ _ _
  wide := fun hab _ h => S.wide hab h
  four := fun _ _ => S.four _ _
  left := fun {x a b} hab hP h => by
    obtain ⟨m, c, p⟩ := x
    obtain ⟨rfl, _, hb, q1, q2, q3, q4⟩ := hP
    have h' : lk a b = 2 := h
    have h2 := S.wide hab (by omega)
    have hh := half_lt h2
    have e : (WS wd lk cur).lk (cur a, c, p) a b = (2, cur a, c, p) := by show (lk a b, _) = _; rw [h']; rfl
    rw [WL_left h' h2, List.length_append] at q2
    rw [WL_left (lk := qb.fl lk) (by rw [fl_two (by omega)]; exact h') h2, List.length_append] at q1
    simp only at q1 q2 q3 q4
    rw [e]
    simp only
    rw [go_state wd S.wide S.four S.turn (half (b - a)) a (a + half (b - a)) c p (by omega) (by omega)]
    exact ⟨⟨rfl, by omega, by omega, by show _ ≤ c.length; omega, by show _ ≤ p.length; omega, q3, q4⟩, rfl, by omega, hb, by show _ ≤ (c.drop _).length; rw [List.length_drop]; omega, by show _ ≤ (p.drop _).length; rw [List.length_drop]; omega, q3.drop _, q4.drop _⟩
  right := fun {x a b} hab hP h => by
    obtain ⟨m, c, p⟩ := x
    obtain ⟨rfl, _, hb, q1, q2, q3, q4⟩ := hP
    have h' : lk a b = 3 := h
    have hc := S.turn h'
    have h2 := S.wide hab (by omega)
    have hh := half_lt h2
    have e : (WS wd lk cur).lk (cur a, c, p) a b = (3, cur (a + half (b - a)), c, p) := by show (lk a b, _) = _; rw [h']; show (3, cur a, c, p) = _; rw [hc a, hc (a + half (b - a))]
    rw [WL_right (lk := lk) (by omega) h2, List.length_append] at q2
    rw [WL_right (lk := qb.fl lk) (by rw [fl_two (by omega)]; omega) h2, List.length_append] at q1
    simp only at q1 q2 q3 q4
    rw [e]
    simp only
    rw [go_state wd S.wide S.four S.turn (b - a - half (b - a)) (a + half (b - a)) b c p (by omega) (by omega)]
    exact ⟨⟨rfl, by omega, hb, by show _ ≤ c.length; omega, by show _ ≤ p.length; omega, q3, q4⟩, by show cur b = cur a; rw [hc a, hc b], by omega, by omega, by show _ ≤ (c.drop _).length; rw [List.length_drop]; omega, by show _ ≤ (p.drop _).length; rw [List.length_drop]; omega, q3.drop _, q4.drop _⟩
end
end Go.Proofs.YthppkdjekfginaaGreatDoor.qb

namespace Go.Proofs.YthppkdjekfginaaGreatDoor.qc
open Go.RowKit Go.PlainAid
open Go.Proofs.YthppkdjekfginaaGreatDoor.pl Go.Proofs.YthppkdjekfginaaGreatDoor.pi Go.Proofs.YthppkdjekfginaaGreatDoor.pj Go.Proofs.YthppkdjekfginaaGreatDoor.rf Go.Proofs.YthppkdjekfginaaGreatDoor.ca Go.Proofs.YthppkdjekfginaaGreatDoor.cb Go.Proofs.YthppkdjekfginaaGreatDoor.cp Go.Proofs.YthppkdjekfginaaGreatDoor.ga Go.Proofs.YthppkdjekfginaaGreatDoor.aa Go.Proofs.YthppkdjekfginaaGreatDoor.ka Go.Proofs.YthppkdjekfginaaGreatDoor.kb Go.Proofs.YthppkdjekfginaaGreatDoor.kc Go.Proofs.YthppkdjekfginaaGreatDoor.kp Go.Proofs.YthppkdjekfginaaGreatDoor.lk Go.Proofs.YthppkdjekfginaaGreatDoor.wt Go.Proofs.YthppkdjekfginaaGreatDoor.qa Go.Proofs.YthppkdjekfginaaGreatDoor.qb
set_option linter.unusedVariables false

theorem three_one (w : World) (x y z : Value) (t t' t'' : TypeId) : (((w.alloc (.cells #[x] t)).alloc (.cells #[y] t')).alloc (.cells #[z] t'')).cell? ⟨w.heap.size, 0, none⟩ = some x ∧ (((w.alloc (.cells #[x] t)).alloc (.cells #[y] t')).alloc (.cells #[z] t'')).cell? ⟨w.heap.size + 1, 0, none⟩ = some y ∧ (((w.alloc (.cells #[x] t)).alloc (.cells #[y] t')).alloc (.cells #[z] t'')).cell? ⟨w.heap.size + 2, 0, none⟩ = some z := by
  have s1 : (w.alloc (.cells #[x] t)).heap.size = w.heap.size + 1 := by simp
  have s2 : ((w.alloc (.cells #[x] t)).alloc (.cells #[y] t')).heap.size = w.heap.size + 2 := by simp
  have B2 : Below (w.alloc (.cells #[x] t)).heap.size (w.alloc (.cells #[x] t)) (((w.alloc (.cells #[x] t)).alloc (.cells #[y] t')).alloc (.cells #[z] t'')) := ((Below.refl _ _).alloc (Nat.le_refl _) _).alloc (by simp) _
  have B3 : Below ((w.alloc (.cells #[x] t)).alloc (.cells #[y] t')).heap.size ((w.alloc (.cells #[x] t)).alloc (.cells #[y] t')) (((w.alloc (.cells #[x] t)).alloc (.cells #[y] t')).alloc (.cells #[z] t'')) := (Below.refl _ _).alloc (Nat.le_refl _) _
  refine ⟨?_, ?_, ?_⟩
  · refine (B2.cell (p := ⟨w.heap.size, 0, none⟩) (by show w.heap.size < _; rw [s1]; omega)).trans ?_
    rw [World.cell?_alloc_at _ _ _ _ rfl]; rfl
  · refine (B3.cell (p := ⟨w.heap.size + 1, 0, none⟩) (by show w.heap.size + 1 < _; rw [s2]; omega)).trans ?_
    rw [← s1, World.cell?_alloc_at _ _ _ _ rfl]; rfl
  · rw [← s2, World.cell?_alloc_at _ _ _ _ rfl]; rfl
section
variable {D F : Nat → Prop} {SS : Nat → World → Prop} {lk : Nat → Nat → Nat} {cur : Nat → Nat} {lg : Nat} {lv : Array Value}
theorem reckonC (S : Shp D F SS lk cur lg lv) (wd : Int) (n base cb pb : Nat) (c p : List ByteArray) (h1 : 1 ≤ n) (hn : n ≤ 4611686018427387904) (w : World)
    (hss : SS (cur 0) w) (hc : Pile base cb c w) (hp : Pile base pb p w) (hT : Tab w) (hb1 : 4 ≤ base) (hb2 : base ≤ w.heap.size) (hne : cb ≠ pb) (hdc : ¬ D cb) (hdp : ¬ D pb) (hfb : ∀ b, F b → base ≤ b)
    (hl1 : (WL (fl lk) 0 n).length ≤ c.length) (hl2 : (WL lk 0 n).length ≤ p.length) (w1 : Wide wd c) (w2 : Wide wd p) :
    Calls Tryz.prog 102 #[.int .i64 wd, .int .i64 n, .func (.func lg) #[] lv, .func (.func 48) #[.pointer (some ⟨cb, 0, none⟩)] #[], .func (.func 48) #[.pointer (some ⟨pb, 0, none⟩)] #[]] w
      fun e w' => e = .returned (.string (go (WS wd lk cur) (cur 0, c, p) 0 n).1) ∧ (go (WS wd lk cur) (cur 0, c, p) 0 n).1.size = wid wd ∧ Below base w w' := by
  have B3 : Hid (Below w.heap.size w (((w.alloc (.cells #[.int .i64 wd] 3)).alloc (.cells #[.func (.func 48) #[.pointer (some ⟨cb, 0, none⟩)] #[]] 78)).alloc (.cells #[.func (.func 48) #[.pointer (some ⟨pb, 0, none⟩)] #[]] 78))) := (((Below.refl _ _).alloc (Nat.le_refl _) _).alloc (by simp) _).alloc (by simp; omega) _
  obtain ⟨x1, x2, x3⟩ := three_one w (.int .i64 wd) (.func (.func 48) #[.pointer (some ⟨cb, 0, none⟩)] #[]) (.func (.func 48) #[.pointer (some ⟨pb, 0, none⟩)] #[]) 3 78 78
  have k : Kp no w _ := Kp.of_below B3.out
  have lc := hc.lt
  have lp := hp.lt
  have hff : ∀ b, F b → b < w.heap.size := fun b hb => S.fl hss b (S.fd b hb)
  have HSR : Hid (SR base cb pb (w.heap.size + 1) (w.heap.size + 2) w.heap.size wd D F SS (cur 0, c, p) (((w.alloc (.cells #[.int .i64 wd] 3)).alloc (.cells #[.func (.func 48) #[.pointer (some ⟨cb, 0, none⟩)] #[]] 78)).alloc (.cells #[.func (.func 48) #[.pointer (some ⟨pb, 0, none⟩)] #[]] 78))) :=
    ⟨S.later hss B3.out, hc.keep k (fun _ e => e.elim) (fun e => e), hp.keep k (fun _ e => e.elim) (fun e => e), x2, x3, x1, hT.down B3.out, ⟨hb1, Nat.le_trans hb2 B3.out.size⟩,
     ⟨hne, by omega, by omega, by omega, by omega, by omega, by omega, hdc, hdp, fun e => by have := hff _ e; omega, fun e => by have := hff _ e; omega, fun e => by have := hff _ e; omega⟩, hfb⟩
  have WC : Hid (Calls _ _ _ _ _) := walkC (KS S S.fd) n 0 n (cur 0, c, p) _ rfl (by omega) hn ⟨rfl, by omega, hn, hl1, hl2, w1, w2⟩ HSR.out
  have HF : Hid (∀ b, FF F cb pb b → base ≤ b) := fun b hb => by
    rcases hb with h | rfl | rfl
    · exact hfb _ h
    · exact hc.new
    · exact hp.new
  have HB2 : Hid (base ≤ w.heap.size) := hb2
  obtain ⟨G, HG⟩ : ∃ G, Hid (go (WS wd lk cur) (cur 0, c, p) 0 n = G) := ⟨_, rfl⟩
  rw [HG.out] at WC ⊢
  clear hss hc hp hT hb1 hb2 hne hdc hdp hfb hl1 hl2 w1 w2 x1 x2 x3 k lc lp hff HG
  go_enter Tryz.func102, Tryz.ntmps102
  go_wp2_with fail
  refine WC.out.mono ?_
  rintro e w4 ⟨rfl, hs, hk, hq⟩
  have H4 : Hid (G.1.size = wid wd ∧ Below base w w4) := ⟨hq, (B3.out.mono HB2.out).trans (hk.below HF.out (Nat.le_trans HB2.out B3.out.size))⟩
  clear hs hk hq
  go_wp2
  go_ret
  exact ⟨rfl, H4.out.1, H4.out.2⟩
end
theorem beqL (a b : ByteArray) : (a.toList == b.toList) = decide (a = b) := by
  by_cases h : a = b
  · subst h; simp
  · rw [decide_eq_false h, beq_eq_false_iff_ne, ByteArray.toList_eq, ByteArray.toList_eq]
    intro e
    exact h (ByteArray.ext (Array.ext' e))
-- have all texts the width's bytes?
def okH (wd : Int) (l : List ByteArray) : Bool := l.all fun h => decide (h.size = wid wd)
theorem okH_wide {wd : Int} {l : List ByteArray} (h : okH wd l = true) : Wide wd l := fun x hx => by
  have := List.all_eq_true.1 h x hx
  simpa using this
theorem wide_okH {wd : Int} {l : List ByteArray} (h : Wide wd l) : okH wd l = true := List.all_eq_true.2 fun x hx => by simpa using h x hx
set_option maxHeartbeats 1600000 in
theorem areC (wd : Int) (hwd : i64 wd) (v : Value) (l : List ByteArray) (w : World) (hR : ReadsT w v l) (hz : l.length ≤ 140737488355328) :
    Calls Tryz.prog 79 #[.int .i64 wd, v] w fun e w' => e = .returned (.bool (okH wd l)) ∧ w' = w := by
  obtain ⟨a, cap, rfl, hcap, hh⟩ := hR
  have HC : Hid (l.length = 0 ∨ ∃ b off, a = some ⟨b, off, none⟩ ∧ ∀ i, i < l.length → w.cell? ⟨b, off + i, none⟩ = some (.string (l.getD i ByteArray.empty))) := hh
  obtain ⟨n, HN⟩ : ∃ n, Hid (l.length = n) := ⟨_, rfl⟩
  obtain ⟨r, HR⟩ : ∃ r, Hid (okH wd l = r) := ⟨_, rfl⟩
  rw [HR.out]
  rw [HN.out] at HC hz hcap ⊢
  have HW : Hid ((wid wd : Int) = if wd < 1 ∨ 32 < wd then 32 else wd) := by
    show _ = _
    unfold wid
    by_cases h : wd < 1 ∨ 32 < wd
    · rw [if_pos h, if_pos h]; rfl
    · rw [if_neg h, if_neg h]; omega
  clear hh
  have BODY : Hid (∀ k, k < n → r = true → (l.getD k ByteArray.empty).size = wid wd) := fun k hk hr => by
    have hk' : k < l.length := by rw [HN.out]; exact hk
    rw [List.getD_eq_getElem?_getD, List.getElem?_eq_getElem hk']
    exact okH_wide (HR.out.trans hr) _ (List.getElem_mem hk')
  have NOT : Hid (∀ k, k < n → (l.getD k ByteArray.empty).size ≠ wid wd → r = false) := fun k hk hr => by
    cases hrr : r with
    | false => rfl
    | true => exact absurd (BODY.out k hk hrr) hr
  have ALL : Hid ((∀ k, k < n → (l.getD k ByteArray.empty).size = wid wd) → r = true) := fun h => by
    rw [← HR.out]
    refine wide_okH fun x hx => ?_
    obtain ⟨j, hj, rfl⟩ := List.getElem_of_mem hx
    have := h j (by rw [← HN.out]; exact hj)
    rwa [List.getD_eq_getElem?_getD, List.getElem?_eq_getElem hj] at this
  obtain ⟨m, HM⟩ : ∃ m : Int, Hid ((wid wd : Int) = m) := ⟨_, rfl⟩
  rw [HM.out] at HW
  have hm : 0 ≤ m ∧ m ≤ 32 := by have := qb.wid_le wd; rw [← HM.out]; omega
  rcases (show wd < 1 ∨ 32 < wd ∨ (1 ≤ wd ∧ wd ≤ 32) by omega) with h1 | h1 | h1
  · have d1 : decide (wd < 1) = true := decide_eq_true h1
    have e32 : m = 32 := by rw [HW.out, if_pos (.inl h1)]
    subst e32
    clear h1 HW
    go_enter Tryz.func79, Tryz.ntmps79
    go_wp2
    go_loopw [15] (fun i wr => ∃ k : Nat, k ≤ n ∧ i = .int .i64 k ∧ Hid (∀ j, j < k → (l.getD j ByteArray.empty).size = wid wd) ∧ w = wr) (fun i _ => (n - intOf i).toNat)
    case atStart => exact ⟨0, by omega, rfl, fun j h => by omega, rfl⟩
    case round =>
      obtain ⟨k, hk, rfl, HS, rfl⟩ := hrel
      by_cases hlt : k < n
      · have hlt' : (k : Int) < n := by omega
        obtain ⟨b, off, rfl, hc⟩ : ∃ b off, a = some ⟨b, off, none⟩ ∧ ∀ i, i < n → w.cell? ⟨b, off + i, none⟩ = some (.string (l.getD i ByteArray.empty)) := by
          rcases HC.out with h | h
          · omega
          · exact h
        have c1 := hc k hlt
        have HNK : Hid ((l.getD k ByteArray.empty).size ≠ wid wd → r = false) := NOT.out k hlt
        obtain ⟨x, HX⟩ : ∃ x, Hid (l.getD k ByteArray.empty = x) := ⟨_, rfl⟩
        rw [HX.out] at c1 HNK
        by_cases hx : (x.size : Int) = 32
        · have q : ((x.size : Int) == 32) = true := by rw [beq_iff_eq]; exact hx
          have HS1 : Hid (∀ j, j < k + 1 → (l.getD j ByteArray.empty).size = wid wd) := fun j hj => by
            by_cases e : j = k
            · subst e; rw [HX.out]; have := HM.out; omega
            · exact HS.out j (by omega)
          clear hc hx
          go_wp2
          go_roundw
          case rel => exact ⟨k + 1, by omega, by go_num, HS1.out, by first | rfl | trivial⟩
          case measure => simp [intOf]; omega
        · have q : ((x.size : Int) == 32) = false := by rw [beq_eq_false_iff_ne]; exact hx
          have HE : Hid (r = false) := HNK.out (fun e => hx (by have := HM.out; omega))
          clear hc hx
          go_wp2
          go_ret
          exact ⟨by first | (rw [HE.out]; done) | (rw [HE.out]; rfl), rfl⟩
      · have hlt' : ¬ (k : Int) < n := by omega
        have HE : Hid (r = true) := ALL.out (fun j hj => HS.out j (by omega))
        go_wp2
        go_ret
        exact ⟨by first | (rw [HE.out]; done) | (rw [HE.out]; rfl), rfl⟩
  · have d0 : decide (wd < 1) = false := decide_eq_false (by omega)
    have d1 : decide (32 < wd) = true := decide_eq_true h1
    have e32 : m = 32 := by rw [HW.out, if_pos (.inr h1)]
    subst e32
    clear h1 HW
    go_enter Tryz.func79, Tryz.ntmps79
    go_wp2
    go_loopw [15] (fun i wr => ∃ k : Nat, k ≤ n ∧ i = .int .i64 k ∧ Hid (∀ j, j < k → (l.getD j ByteArray.empty).size = wid wd) ∧ w = wr) (fun i _ => (n - intOf i).toNat)
    case atStart => exact ⟨0, by omega, rfl, fun j h => by omega, rfl⟩
    case round =>
      obtain ⟨k, hk, rfl, HS, rfl⟩ := hrel
      by_cases hlt : k < n
      · have hlt' : (k : Int) < n := by omega
        obtain ⟨b, off, rfl, hc⟩ : ∃ b off, a = some ⟨b, off, none⟩ ∧ ∀ i, i < n → w.cell? ⟨b, off + i, none⟩ = some (.string (l.getD i ByteArray.empty)) := by
          rcases HC.out with h | h
          · omega
          · exact h
        have c1 := hc k hlt
        have HNK : Hid ((l.getD k ByteArray.empty).size ≠ wid wd → r = false) := NOT.out k hlt
        obtain ⟨x, HX⟩ : ∃ x, Hid (l.getD k ByteArray.empty = x) := ⟨_, rfl⟩
        rw [HX.out] at c1 HNK
        by_cases hx : (x.size : Int) = 32
        · have q : ((x.size : Int) == 32) = true := by rw [beq_iff_eq]; exact hx
          have HS1 : Hid (∀ j, j < k + 1 → (l.getD j ByteArray.empty).size = wid wd) := fun j hj => by
            by_cases e : j = k
            · subst e; rw [HX.out]; have := HM.out; omega
            · exact HS.out j (by omega)
          clear hc hx
          go_wp2
          go_roundw
          case rel => exact ⟨k + 1, by omega, by go_num, HS1.out, by first | rfl | trivial⟩
          case measure => simp [intOf]; omega
        · have q : ((x.size : Int) == 32) = false := by rw [beq_eq_false_iff_ne]; exact hx
          have HE : Hid (r = false) := HNK.out (fun e => hx (by have := HM.out; omega))
          clear hc hx
          go_wp2
          go_ret
          exact ⟨by first | (rw [HE.out]; done) | (rw [HE.out]; rfl), rfl⟩
      · have hlt' : ¬ (k : Int) < n := by omega
        have HE : Hid (r = true) := ALL.out (fun j hj => HS.out j (by omega))
        go_wp2
        go_ret
        exact ⟨by first | (rw [HE.out]; done) | (rw [HE.out]; rfl), rfl⟩
  · have d0 : decide (wd < 1) = false := decide_eq_false (by omega)
    have d1 : decide (32 < wd) = false := decide_eq_false (by omega)
    have e32 : m = wd := by rw [HW.out, if_neg (by omega)]
    subst e32
    clear HW
    go_enter Tryz.func79, Tryz.ntmps79
    go_wp2
    go_loopw [15] (fun i wr => ∃ k : Nat, k ≤ n ∧ i = .int .i64 k ∧ Hid (∀ j, j < k → (l.getD j ByteArray.empty).size = wid m) ∧ w = wr) (fun i _ => (n - intOf i).toNat)
    case atStart => exact ⟨0, by omega, rfl, fun j h => by omega, rfl⟩
    case round =>
      obtain ⟨k, hk, rfl, HS, rfl⟩ := hrel
      by_cases hlt : k < n
      · have hlt' : (k : Int) < n := by omega
        obtain ⟨b, off, rfl, hc⟩ : ∃ b off, a = some ⟨b, off, none⟩ ∧ ∀ i, i < n → w.cell? ⟨b, off + i, none⟩ = some (.string (l.getD i ByteArray.empty)) := by
          rcases HC.out with h | h
          · omega
          · exact h
        have c1 := hc k hlt
        have HNK : Hid ((l.getD k ByteArray.empty).size ≠ wid m → r = false) := NOT.out k hlt
        obtain ⟨x, HX⟩ : ∃ x, Hid (l.getD k ByteArray.empty = x) := ⟨_, rfl⟩
        rw [HX.out] at c1 HNK
        by_cases hx : (x.size : Int) = m
        · have q : ((x.size : Int) == m) = true := by rw [beq_iff_eq]; exact hx
          have HS1 : Hid (∀ j, j < k + 1 → (l.getD j ByteArray.empty).size = wid m) := fun j hj => by
            by_cases e : j = k
            · subst e; rw [HX.out]; have := HM.out; omega
            · exact HS.out j (by omega)
          clear hc hx
          go_wp2
          go_roundw
          case rel => exact ⟨k + 1, by omega, by go_num, HS1.out, by first | rfl | trivial⟩
          case measure => simp [intOf]; omega
        · have q : ((x.size : Int) == m) = false := by rw [beq_eq_false_iff_ne]; exact hx
          have HE : Hid (r = false) := HNK.out (fun e => hx (by have := HM.out; omega))
          clear hc hx
          go_wp2
          go_ret
          exact ⟨by first | (rw [HE.out]; done) | (rw [HE.out]; rfl), rfl⟩
      · have hlt' : ¬ (k : Int) < n := by omega
        have HE : Hid (r = true) := ALL.out (fun j hj => HS.out j (by omega))
        go_wp2
        go_ret
        exact ⟨by first | (rw [HE.out]; done) | (rw [HE.out]; rfl), rfl⟩
def rH (wd : Int) (count : Int) (proof others : List ByteArray) : Int := if okH wd others && okH wd proof then (if (proof.length : Int) = count then 0 else 71) else 72
theorem refuseH (wd : Int) (hwd : i64 wd) (count : Int) (vp vo : Value) (proof others : List ByteArray) (w : World) (hp : ReadsT w vp proof) (ho : ReadsT w vo others) (zp : proof.length ≤ 140737488355328) (zo : others.length ≤ 140737488355328) :
    Calls Tryz.prog 45 #[.int .i64 wd, .int .i64 count, vp, vo] w fun e w' => e = .returned (.int .i64 (rH wd count proof others)) ∧ w' = w := by
  have A1 : Hid (∀ w, ReadsT w vo others → Calls _ _ _ _ _) := fun w h => areC wd hwd vo others w h zo
  have A2 : Hid (∀ w, ReadsT w vp proof → Calls _ _ _ _ _) := fun w h => areC wd hwd vp proof w h zp
  have H1 : Hid (ReadsT w vo others ∧ ReadsT w vp proof) := ⟨ho, hp⟩
  obtain ⟨oa, oc, rfl, _⟩ := ho
  obtain ⟨pa, pc, rfl, _⟩ := hp
  unfold rH
  obtain ⟨n, HN⟩ : ∃ n, Hid (proof.length = n) := ⟨_, rfl⟩
  obtain ⟨x, HX⟩ : ∃ x, Hid (okH wd others = x) := ⟨_, rfl⟩
  obtain ⟨y, HY⟩ : ∃ y, Hid (okH wd proof = y) := ⟨_, rfl⟩
  rw [HX.out] at A1 ⊢
  rw [HY.out] at A2 ⊢
  rw [HN.out] at A2 H1 zp ⊢
  cases x
  · go_enter Tryz.func45, Tryz.ntmps45
    go_wp2_with fail
    refine (A1.out _ H1.out.1).mono ?_
    rintro e w1 ⟨rfl, hw⟩
    subst hw
    go_wp2
    go_ret
    exact ⟨rfl, rfl⟩
  · cases y
    · go_enter Tryz.func45, Tryz.ntmps45
      go_wp2_with fail
      refine (A1.out _ H1.out.1).mono ?_
      rintro e w1 ⟨rfl, hw⟩
      subst hw
      go_wp2_with fail
      refine (A2.out _ H1.out.2).mono ?_
      rintro e w2 ⟨rfl, hw⟩
      subst hw
      go_wp2
      go_ret
      exact ⟨rfl, rfl⟩
    · by_cases hc : (n : Int) = count
      · subst hc
        have q : ((n : Int) == n) = true := beq_self_eq_true _
        go_enter Tryz.func45, Tryz.ntmps45
        go_wp2_with fail
        refine (A1.out _ H1.out.1).mono ?_
        rintro e w1 ⟨rfl, hw⟩
        subst hw
        go_wp2_with fail
        refine (A2.out _ H1.out.2).mono ?_
        rintro e w2 ⟨rfl, hw⟩
        subst hw
        go_wp2
        go_ret
        exact ⟨by first | rfl | simp, rfl⟩
      · have q : ((n : Int) == count) = false := by rw [beq_eq_false_iff_ne]; exact hc
        go_enter Tryz.func45, Tryz.ntmps45
        go_wp2_with fail
        refine (A1.out _ H1.out.1).mono ?_
        rintro e w1 ⟨rfl, hw⟩
        subst hw
        go_wp2_with fail
        refine (A2.out _ H1.out.2).mono ?_
        rintro e w2 ⟨rfl, hw⟩
        subst hw
        go_wp2
        go_ret
        exact ⟨by first | rfl | simp [hc], rfl⟩
theorem matchC (x root : ByteArray) (w : World) : Calls Tryz.prog 80 #[.string x, .string root] w fun e w' => e = .returned (.int .i64 (if x = root then 0 else 90)) ∧ w' = w := by
  by_cases h : x = root
  · subst h
    rw [if_pos rfl]
    have q : (x.toList == x.toList) = true := beq_self_eq_true _
    go_enter Tryz.func80, Tryz.ntmps80
    go_wp2
    go_ret
    exact ⟨rfl, rfl⟩
  · rw [if_neg h]
    have q : (x.toList == root.toList) = false := by rw [beqL]; exact decide_eq_false h
    go_enter Tryz.func80, Tryz.ntmps80
    go_wp2
    go_ret
    exact ⟨rfl, rfl⟩
end Go.Proofs.YthppkdjekfginaaGreatDoor.qc

namespace Go.Proofs.YthppkdjekfginaaGreatDoor.qd
open Go.RowKit Go.PlainAid
open Go.Proofs.YthppkdjekfginaaGreatDoor.pl Go.Proofs.YthppkdjekfginaaGreatDoor.pi Go.Proofs.YthppkdjekfginaaGreatDoor.pj Go.Proofs.YthppkdjekfginaaGreatDoor.rf Go.Proofs.YthppkdjekfginaaGreatDoor.ca Go.Proofs.YthppkdjekfginaaGreatDoor.cb Go.Proofs.YthppkdjekfginaaGreatDoor.cp Go.Proofs.YthppkdjekfginaaGreatDoor.ga Go.Proofs.YthppkdjekfginaaGreatDoor.aa Go.Proofs.YthppkdjekfginaaGreatDoor.ka Go.Proofs.YthppkdjekfginaaGreatDoor.kb Go.Proofs.YthppkdjekfginaaGreatDoor.kc Go.Proofs.YthppkdjekfginaaGreatDoor.kp Go.Proofs.YthppkdjekfginaaGreatDoor.lk Go.Proofs.YthppkdjekfginaaGreatDoor.mi Go.Proofs.YthppkdjekfginaaGreatDoor.co Go.Proofs.YthppkdjekfginaaGreatDoor.cn Go.Proofs.YthppkdjekfginaaGreatDoor.dc Go.Proofs.YthppkdjekfginaaGreatDoor.wt Go.Proofs.YthppkdjekfginaaGreatDoor.qa Go.Proofs.YthppkdjekfginaaGreatDoor.qb Go.Proofs.YthppkdjekfginaaGreatDoor.qc
set_option linter.unusedVariables false

def ldP (wd : Int) (i n : Nat) (hash : ByteArray) (path : List ByteArray) : ByteArray := (go (WS wd (lkI i) (fun _ => 0)) (0, [hash], path) 0 n).1
theorem claims (i : Nat) (n : Nat) : ∀ a b, b - a = n → a < b → (WL (fl (lkI i)) a b).length ≤ 1 ∧ (¬ (a ≤ i ∧ i < b) → (WL (fl (lkI i)) a b).length = 0) := by
  induction n using Nat.strongRecOn with
  | ind n ih =>
    intro a b hn hab
    by_cases h : a ≤ i ∧ i < b
    · refine ⟨?_, fun g => absurd h g⟩
      by_cases h1 : b - a = 1
      · rw [WL_take (lk := fl (lkI i)) (by unfold fl lkI; rw [if_pos h, if_pos h1]; rfl)]; simp
      · have h2 : 2 ≤ b - a := by omega
        have hh := half_lt h2
        obtain ⟨l1, l2⟩ := ih (half (b - a)) (by omega) a (a + half (b - a)) (by omega) (by omega)
        obtain ⟨r1, r2⟩ := ih (b - a - half (b - a)) (by omega) (a + half (b - a)) b (by omega) (by omega)
        by_cases g : i < a + half (b - a)
        · rw [WL_left (lk := fl (lkI i)) (by rw [fl_two] <;> (unfold lkI; rw [if_pos h, if_neg h1, if_pos g]) ; omega) h2, List.length_append, r2 (by omega)]; omega
        · rw [WL_right (lk := fl (lkI i)) (by rw [fl_two] <;> (unfold lkI; rw [if_pos h, if_neg h1, if_neg g]); all_goals omega) h2, List.length_append, l2 (by omega)]; omega
    · have e : WL (fl (lkI i)) a b = [] := WL_pass (by unfold fl lkI; rw [if_neg h, if_neg (by omega), if_pos rfl])
      rw [e]
      exact ⟨by simp, fun _ => rfl⟩
theorem text_reads (w : World) (h : ByteArray) : ReadsT (w.alloc (.cells #[.string h] 9)) (.slice (some ⟨w.heap.size, 0, none⟩) 1 1) [h] :=
  ⟨_, 1, rfl, Nat.le_refl _, .inr ⟨w.heap.size, 0, rfl, fun i hi => by
    obtain rfl : i = 0 := by simp at hi; omega
    rw [World.cell?_alloc_at _ _ _ _ rfl]; rfl⟩⟩
-- what is refused of an inclusion
def incR (wd i n : Int) (path others : List ByteArray) : Int := if (cnt9 1 i 0 n []).2 = 0 then rH wd (cnt9 1 i 0 n []).1 path others else (cnt9 1 i 0 n []).2
theorem reads_nilI (w : World) : ReadsI w (.slice none 0 0) [] := ⟨none, 0, rfl, Nat.le_refl _, .inl rfl⟩
-- if nothing is refused
theorem incR_ok {wd i n : Int} {path others : List ByteArray} (h : incR wd i n path others = 0) : ∃ I N : Nat, i = I ∧ n = N ∧ I < N ∧ N ≤ 4611686018427387904 ∧ path.length = cI I N ∧ Wide wd path ∧ Wide wd others := by
  unfold incR at h
  by_cases h0 : ref9 1 i 0 n [] = 0
  · have hc : cnt9 1 i 0 n [] = (((num9 1 i 0 n [] : Nat) : Int), 0) := by unfold cnt9; rw [if_pos h0]
    rw [hc, if_pos rfl] at h
    unfold ref9 at h0
    rw [if_neg (by omega)] at h0
    by_cases k2 : n < 0 ∨ 4611686018427387904 < n
    · rw [if_pos k2] at h0; omega
    rw [if_neg k2, if_pos rfl] at h0
    by_cases g : i < 0 ∨ n ≤ i
    · rw [if_pos g] at h0; omega
    obtain ⟨I, rfl⟩ : ∃ A : Nat, i = A := ⟨i.toNat, by omega⟩
    obtain ⟨N, rfl⟩ : ∃ A : Nat, n = A := ⟨n.toNat, by omega⟩
    unfold rH at h
    unfold num9 at h
    rw [if_pos rfl, Int.toNat_natCast, Int.toNat_natCast, cI_is (by omega)] at h
    by_cases q : (okH wd others && okH wd path) = true
    · rw [if_pos q] at h
      rw [Bool.and_eq_true] at q
      by_cases q2 : (path.length : Int) = ((cI I N : Nat) : Int)
      · exact ⟨I, N, rfl, rfl, by omega, by omega, by omega, okH_wide q.2, okH_wide q.1⟩
      · rw [if_neg q2] at h; omega
    · rw [if_neg q] at h; omega
  · have hc : cnt9 1 i 0 n [] = (0, ref9 1 i 0 n []) := by unfold cnt9; rw [if_neg h0]
    rw [hc] at h
    simp only at h
    rw [if_neg h0] at h
    exact absurd h h0
def leadA (wd i n : Int) (hash : ByteArray) (path : List ByteArray) : ByteArray × Int := if incR wd i n path [hash] = 0 then (ldP wd i.toNat n.toNat hash path, 0) else (ByteArray.empty, incR wd i n path [hash])
def incA (wd i n : Int) (hash : ByteArray) (path : List ByteArray) (root : ByteArray) : Int := if incR wd i n path [hash, root] = 0 then (if ldP wd i.toNat n.toNat hash path = root then 0 else 90) else incR wd i n path [hash, root]
theorem two_reads (w : World) (h r : ByteArray) : ReadsT (w.alloc (.cells #[.string h, .string r] 9)) (.slice (some ⟨w.heap.size, 0, none⟩) 2 2) [h, r] :=
  ⟨_, 2, rfl, Nat.le_refl _, .inr ⟨w.heap.size, 0, rfl, fun i hi => by
    rw [World.cell?_alloc_at _ _ _ _ rfl]
    have hi2 : i < 2 := by simpa using hi
    rcases (show i = 0 ∨ i = 1 by omega) with rfl | rfl <;> rfl⟩⟩
end Go.Proofs.YthppkdjekfginaaGreatDoor.qd

namespace Go.Proofs.YthppkdjekfginaaGreatDoor.qe
open Go.RowKit Go.PlainAid
open Go.Proofs.YthppkdjekfginaaGreatDoor.pl Go.Proofs.YthppkdjekfginaaGreatDoor.pi Go.Proofs.YthppkdjekfginaaGreatDoor.pj Go.Proofs.YthppkdjekfginaaGreatDoor.rf Go.Proofs.YthppkdjekfginaaGreatDoor.ca Go.Proofs.YthppkdjekfginaaGreatDoor.cb Go.Proofs.YthppkdjekfginaaGreatDoor.cp Go.Proofs.YthppkdjekfginaaGreatDoor.ga Go.Proofs.YthppkdjekfginaaGreatDoor.aa Go.Proofs.YthppkdjekfginaaGreatDoor.ka Go.Proofs.YthppkdjekfginaaGreatDoor.kb Go.Proofs.YthppkdjekfginaaGreatDoor.kp Go.Proofs.YthppkdjekfginaaGreatDoor.mi Go.Proofs.YthppkdjekfginaaGreatDoor.co Go.Proofs.YthppkdjekfginaaGreatDoor.dc Go.Proofs.YthppkdjekfginaaGreatDoor.df Go.Proofs.YthppkdjekfginaaGreatDoor.qb Go.Proofs.YthppkdjekfginaaGreatDoor.qc
set_option linter.unusedVariables false

theorem wid_pos (wd : Int) : 1 ≤ wid wd := by unfold wid; split <;> omega
theorem wid_wid (wd : Int) : wid ((wid wd : Nat) : Int) = wid wd := by
  have h1 := wid_pos wd
  have h2 := qb.wid_le wd
  generalize wid wd = m at h1 h2 ⊢
  unfold wid
  rw [if_neg (by omega), Int.toNat_natCast]
theorem NF_wid (wd : Int) : NF ((wid wd : Nat) : Int) = NF wd := by
  funext l r
  unfold NF cutS
  rw [wid_wid]
theorem widthD (wd : Int) (w : World) : Calls Tryz.prog 61 #[.int .i64 wd] w fun e w' => e = .returned (.int .i64 (wid wd : Nat)) ∧ w' = w := by
  rcases (show wd < 1 ∨ 32 < wd ∨ (1 ≤ wd ∧ wd ≤ 32) by omega) with h1 | h1 | h1
  · have e : ((wid wd : Nat) : Int) = 32 := by unfold wid; rw [if_pos (.inl h1)]; rfl
    rw [e]
    have d1 : decide (wd < 1) = true := decide_eq_true h1
    clear h1 e
    go_enter Tryz.func61, Tryz.ntmps61
    go_wp2
    go_ret
    exact ⟨rfl, rfl⟩
  · have e : ((wid wd : Nat) : Int) = 32 := by unfold wid; rw [if_pos (.inr h1)]; rfl
    rw [e]
    have d0 : decide (wd < 1) = false := decide_eq_false (by omega)
    have d1 : decide (32 < wd) = true := decide_eq_true h1
    clear h1 e
    go_enter Tryz.func61, Tryz.ntmps61
    go_wp2
    go_ret
    exact ⟨rfl, rfl⟩
  · have e : ((wid wd : Nat) : Int) = wd := by unfold wid; rw [if_neg (by omega)]; omega
    rw [e]
    have d0 : decide (wd < 1) = false := decide_eq_false (by omega)
    have d1 : decide (32 < wd) = false := decide_eq_false (by omega)
    clear h1 e
    go_enter Tryz.func61, Tryz.ntmps61
    go_wp2
    go_ret
    exact ⟨rfl, rfl⟩
set_option maxHeartbeats 1600000 in
theorem sizedD (wd : Int) (v : Value) (l : List ByteArray) (w : World) (hR : ReadsT w v l) (hz : l.length ≤ 140737488355328) :
    Calls Tryz.prog 98 #[.int .i64 (wid wd : Nat), v] w fun e w' => e = .returned (.bool (okH wd l)) ∧ w' = w := by
  obtain ⟨a, cap, rfl, hcap, hh⟩ := hR
  have HC : Hid (l.length = 0 ∨ ∃ b off, a = some ⟨b, off, none⟩ ∧ ∀ i, i < l.length → w.cell? ⟨b, off + i, none⟩ = some (.string (l.getD i ByteArray.empty))) := hh
  obtain ⟨n, HN⟩ : ∃ n, Hid (l.length = n) := ⟨_, rfl⟩
  obtain ⟨r, HR⟩ : ∃ r, Hid (okH wd l = r) := ⟨_, rfl⟩
  rw [HR.out]
  rw [HN.out] at HC hz hcap ⊢
  clear hh
  have BODY : Hid (∀ k, k < n → r = true → (l.getD k ByteArray.empty).size = wid wd) := fun k hk hr => by
    have hk' : k < l.length := by rw [HN.out]; exact hk
    rw [List.getD_eq_getElem?_getD, List.getElem?_eq_getElem hk']
    exact okH_wide (HR.out.trans hr) _ (List.getElem_mem hk')
  have NOT : Hid (∀ k, k < n → (l.getD k ByteArray.empty).size ≠ wid wd → r = false) := fun k hk hr => by
    cases hrr : r with
    | false => rfl
    | true => exact absurd (BODY.out k hk hrr) hr
  have ALL : Hid ((∀ k, k < n → (l.getD k ByteArray.empty).size = wid wd) → r = true) := fun h => by
    rw [← HR.out]
    refine wide_okH fun x hx => ?_
    obtain ⟨j, hj, rfl⟩ := List.getElem_of_mem hx
    have := h j (by rw [← HN.out]; exact hj)
    rwa [List.getD_eq_getElem?_getD, List.getElem?_eq_getElem hj] at this
  obtain ⟨m, HM⟩ : ∃ m, Hid (wid wd = m) := ⟨_, rfl⟩
  rw [HM.out] at NOT ALL ⊢
  clear BODY
  go_enter Tryz.func98, Tryz.ntmps98
  go_wp2
  go_loopw [5] (fun i wr => ∃ k : Nat, k ≤ n ∧ i = .int .i64 k ∧ Hid (∀ j, j < k → (l.getD j ByteArray.empty).size = m) ∧ w = wr) (fun i _ => (n - intOf i).toNat)
  case atStart => exact ⟨0, by omega, rfl, fun j h => by omega, rfl⟩
  case round =>
    obtain ⟨k, hk, rfl, HS, rfl⟩ := hrel
    by_cases hlt : k < n
    · have hlt' : (k : Int) < n := by omega
      obtain ⟨b, off, rfl, hc⟩ : ∃ b off, a = some ⟨b, off, none⟩ ∧ ∀ i, i < n → w.cell? ⟨b, off + i, none⟩ = some (.string (l.getD i ByteArray.empty)) := by
        rcases HC.out with h | h
        · omega
        · exact h
      have c1 := hc k hlt
      have HNK : Hid ((l.getD k ByteArray.empty).size ≠ m → r = false) := NOT.out k hlt
      obtain ⟨x, HX⟩ : ∃ x, Hid (l.getD k ByteArray.empty = x) := ⟨_, rfl⟩
      rw [HX.out] at c1 HNK
      by_cases hx : x.size = m
      · have q : ((x.size : Int) == m) = true := by rw [beq_iff_eq]; omega
        have q2 : (x.size == m) = true := by rw [beq_iff_eq]; exact hx
        have HS1 : Hid (∀ j, j < k + 1 → (l.getD j ByteArray.empty).size = m) := fun j hj => by
          by_cases e : j = k
          · subst e; rw [HX.out]; exact hx
          · exact HS.out j (by omega)
        clear hc
        go_wp2
        go_roundw
        case rel => exact ⟨k + 1, by omega, by go_num, HS1.out, by first | rfl | trivial⟩
        case measure => simp [intOf]; omega
      · have q : ((x.size : Int) == m) = false := by rw [beq_eq_false_iff_ne]; omega
        have q2 : (x.size == m) = false := by rw [beq_eq_false_iff_ne]; exact hx
        have HE : Hid (r = false) := HNK.out hx
        clear hc
        go_wp2
        go_ret
        exact ⟨by first | (rw [HE.out]; done) | (rw [HE.out]; rfl), rfl⟩
    · have hlt' : ¬ (k : Int) < n := by omega
      have HE : Hid (r = true) := ALL.out (fun j hj => HS.out j (by omega))
      go_wp2
      go_ret
      exact ⟨by first | (rw [HE.out]; done) | (rw [HE.out]; rfl), rfl⟩
theorem lookedD (wd : Int) (count : Int) (vp vo : Value) (proof others : List ByteArray) (w : World) (hp : ReadsT w vp proof) (ho : ReadsT w vo others) (zp : proof.length ≤ 140737488355328) (zo : others.length ≤ 140737488355328) :
    Calls Tryz.prog 62 #[.int .i64 (wid wd : Nat), vo, vp, .int .i64 count] w fun e w' => e = .returned (.int .i64 (rH wd count proof others)) ∧ w' = w := by
  have A1 : Hid (∀ w, ReadsT w vo others → Calls _ _ _ _ _) := fun w h => sizedD wd vo others w h zo
  have A2 : Hid (∀ w, ReadsT w vp proof → Calls _ _ _ _ _) := fun w h => sizedD wd vp proof w h zp
  have H1 : Hid (ReadsT w vo others ∧ ReadsT w vp proof) := ⟨ho, hp⟩
  obtain ⟨oa, oc, rfl, _⟩ := ho
  obtain ⟨pa, pc, rfl, _⟩ := hp
  unfold rH
  obtain ⟨n, HN⟩ : ∃ n, Hid (proof.length = n) := ⟨_, rfl⟩
  obtain ⟨x, HX⟩ : ∃ x, Hid (okH wd others = x) := ⟨_, rfl⟩
  obtain ⟨y, HY⟩ : ∃ y, Hid (okH wd proof = y) := ⟨_, rfl⟩
  rw [HX.out] at A1 ⊢
  rw [HY.out] at A2 ⊢
  rw [HN.out] at A2 H1 zp ⊢
  obtain ⟨z, HZ⟩ : ∃ z : Bool, Hid (decide ((n : Int) = count) = z) := ⟨_, rfl⟩
  have q : ((n : Int) == count) = z := by rw [← HZ.out]; rfl
  have HE : Hid ((if ((x && y) = true) then (if (n : Int) = count then (0 : Int) else 71) else 72) = if (x && y) = true then (if z then 0 else 71) else 72) := by
    show _ = _
    rw [← HZ.out]
    by_cases h : (n : Int) = count <;> simp [h]
  rw [HE.out]
  clear HE HZ
  cases x <;> cases y <;> cases z
  all_goals (
    go_enter Tryz.func62, Tryz.ntmps62
    go_wp2_with fail
    refine (A1.out _ H1.out.1).mono ?_
    rintro e w1 ⟨rfl, hw⟩
    subst hw
    go_wp2_with fail
    refine (A2.out _ H1.out.2).mono ?_
    rintro e w2 ⟨rfl, hw⟩
    subst hw
    go_wp2
    go_ret
    exact ⟨by first | rfl | simp, rfl⟩)
end Go.Proofs.YthppkdjekfginaaGreatDoor.qe

namespace Go.Proofs.YthppkdjekfginaaGreatDoor.qf
open Go.RowKit Go.PlainAid
open Go.Proofs.YthppkdjekfginaaGreatDoor.pl Go.Proofs.YthppkdjekfginaaGreatDoor.pi Go.Proofs.YthppkdjekfginaaGreatDoor.pj Go.Proofs.YthppkdjekfginaaGreatDoor.rf Go.Proofs.YthppkdjekfginaaGreatDoor.ca Go.Proofs.YthppkdjekfginaaGreatDoor.cb Go.Proofs.YthppkdjekfginaaGreatDoor.cp Go.Proofs.YthppkdjekfginaaGreatDoor.ga Go.Proofs.YthppkdjekfginaaGreatDoor.aa Go.Proofs.YthppkdjekfginaaGreatDoor.ka Go.Proofs.YthppkdjekfginaaGreatDoor.kb Go.Proofs.YthppkdjekfginaaGreatDoor.kp Go.Proofs.YthppkdjekfginaaGreatDoor.mi Go.Proofs.YthppkdjekfginaaGreatDoor.co Go.Proofs.YthppkdjekfginaaGreatDoor.dc Go.Proofs.YthppkdjekfginaaGreatDoor.df Go.Proofs.YthppkdjekfginaaGreatDoor.lk Go.Proofs.YthppkdjekfginaaGreatDoor.qb Go.Proofs.YthppkdjekfginaaGreatDoor.qc Go.Proofs.YthppkdjekfginaaGreatDoor.qd Go.Proofs.YthppkdjekfginaaGreatDoor.qe
set_option linter.unusedVariables false

-- the document's root of a path
def dl (wd : Int) (hash : ByteArray) (i n : Nat) (path : List ByteArray) : ByteArray :=
  if h : 2 ≤ n then
    if i < half n then NF wd (dl wd hash i (half n) path.dropLast) (path.getLastD ByteArray.empty)
    else NF wd (path.getLastD ByteArray.empty) (dl wd hash (i - half n) (n - half n) path.dropLast)
  else hash
termination_by n
decreasing_by all_goals (have := half_lt h; omega)
theorem dl_one {wd : Int} {hash : ByteArray} {i n : Nat} {path : List ByteArray} (h : ¬ 2 ≤ n) : dl wd hash i n path = hash := by rw [dl, dif_neg h]
theorem dl_low {wd : Int} {hash : ByteArray} {i n : Nat} {path : List ByteArray} (h : 2 ≤ n) (hi : i < half n) : dl wd hash i n path = NF wd (dl wd hash i (half n) path.dropLast) (path.getLastD ByteArray.empty) := by rw [dl, dif_pos h, if_pos hi]
theorem dl_high {wd : Int} {hash : ByteArray} {i n : Nat} {path : List ByteArray} (h : 2 ≤ n) (hi : ¬ i < half n) : dl wd hash i n path = NF wd (path.getLastD ByteArray.empty) (dl wd hash (i - half n) (n - half n) path.dropLast) := by rw [dl, dif_pos h, if_neg hi]
theorem dl_size {wd : Int} {hash : ByteArray} (h : hash.size = wid wd) (i n : Nat) (path : List ByteArray) : (dl wd hash i n path).size = wid wd := by
  by_cases h2 : 2 ≤ n
  · by_cases hi : i < half n
    · rw [dl_low h2 hi]; exact NF_size _ _ _
    · rw [dl_high h2 hi]; exact NF_size _ _ _
  · rw [dl_one h2]; exact h
theorem dl_wid (wd : Int) (hash : ByteArray) (n : Nat) : ∀ i path, dl ((wid wd : Nat) : Int) hash i n path = dl wd hash i n path := by
  induction n using Nat.strongRecOn with
  | ind n ih =>
    intro i path
    by_cases h2 : 2 ≤ n
    · have hh := half_lt h2
      by_cases hi : i < half n
      · rw [dl_low h2 hi, dl_low h2 hi, ih _ hh.2.1, NF_wid]
      · rw [dl_high h2 hi, dl_high h2 hi, ih _ (by omega), NF_wid]
    · rw [dl_one h2, dl_one h2]
theorem take_last (p : List ByteArray) (L : Nat) (h : L < p.length) : (p.take (L + 1)).dropLast = p.take L ∧ (p.take (L + 1)).getLastD ByteArray.empty = (p.drop L).headD ByteArray.empty := by
  have e : p.take (L + 1) = p.take L ++ [p[L]] := by rw [List.take_add_one, List.getElem?_eq_getElem h]; rfl
  have e2 : p.drop L = p[L] :: p.drop (L + 1) := List.drop_eq_getElem_cons h
  constructor
  · rw [e, List.dropLast_concat]
  · rw [e, e2, List.getLastD_eq_getLast?, List.getLast?_concat]
    rfl
theorem lead_is (wd : Int) (i : Nat) (hash : ByteArray) (n : Nat) : ∀ a b p, b - a = n → a ≤ i → i < b → (WL (lkI i) a b).length ≤ p.length → (go (WS wd (lkI i) (fun _ => 0)) (0, [hash], p) a b).1 = dl wd hash (i - a) (b - a) (p.take (WL (lkI i) a b).length) := by
  induction n using Nat.strongRecOn with
  | ind n ih =>
    intro a b p hn h1 h2 hp
    have S := ShI 0 i
    by_cases h : 2 ≤ b - a
    · have hh := half_lt h
      by_cases hi : i < a + half (b - a)
      · have hk : lkI i a b = 2 := by unfold lkI; rw [if_pos ⟨h1, h2⟩, if_neg (by omega), if_pos hi]
        have hk2 : lkI i (a + half (b - a)) b = 1 := by unfold lkI; rw [if_neg (by omega)]
        have e : (WS wd (lkI i) (fun _ => 0)).lk (0, [hash], p) a b = (2, 0, [hash], p) := by show (lkI i a b, _) = _; rw [hk]; rfl
        have hlen : (WL (lkI i) a b).length = (WL (lkI i) a (a + half (b - a))).length + 1 := by rw [WL_left hk h, List.length_append, WL_take hk2]; rfl
        rw [hlen] at hp ⊢
        have st := go_state wd (lk := lkI i) (cur := fun _ => 0) S.wide S.four S.turn (half (b - a)) a (a + half (b - a)) [hash] p (by omega) (by omega)
        obtain ⟨t1, t2⟩ := take_last p (WL (lkI i) a (a + half (b - a))).length (by omega)
        rw [go_left (by rw [e]) h, e]
        simp only
        rw [st, ih (half (b - a)) (by omega) a (a + half (b - a)) p (by omega) h1 hi (by omega), dl_low h (by omega), t1, t2, show a + half (b - a) - a = half (b - a) by omega]
        have e2 : ∀ c q, (go (WS wd (lkI i) (fun _ => 0)) (0, c, q) (a + half (b - a)) b).1 = q.headD ByteArray.empty := fun c q => by
          have z : (WS wd (lkI i) (fun _ => 0)).lk (0, c, q) (a + half (b - a)) b = (1, 0, c, q) := by show (lkI i (a + half (b - a)) b, _) = _; rw [hk2]; rfl
          rw [go_stop (by rw [z]; show 1 < 2; omega), z]; rfl
        rw [e2]
        rfl
      · have hk : lkI i a b = 3 := by unfold lkI; rw [if_pos ⟨h1, h2⟩, if_neg (by omega), if_neg hi]
        have hk2 : lkI i a (a + half (b - a)) = 1 := by unfold lkI; rw [if_neg (by omega)]
        have e : (WS wd (lkI i) (fun _ => 0)).lk (0, [hash], p) a b = (3, 0, [hash], p) := by show (lkI i a b, _) = _; rw [hk]; rfl
        have hlen : (WL (lkI i) a b).length = (WL (lkI i) (a + half (b - a)) b).length + 1 := by rw [WL_right (by omega) h, List.length_append, WL_take hk2]; rfl
        rw [hlen] at hp ⊢
        have st := go_state wd (lk := lkI i) (cur := fun _ => 0) S.wide S.four S.turn (b - a - half (b - a)) (a + half (b - a)) b [hash] p (by omega) (by omega)
        obtain ⟨t1, t2⟩ := take_last p (WL (lkI i) (a + half (b - a)) b).length (by omega)
        rw [go_right (by rw [e]; exact Nat.le_refl _) h, e]
        simp only
        rw [st, ih (b - a - half (b - a)) (by omega) (a + half (b - a)) b p (by omega) (by omega) h2 (by omega), dl_high h (by omega), t1, t2, show i - (a + half (b - a)) = i - a - half (b - a) by omega, show b - (a + half (b - a)) = b - a - half (b - a) by omega]
        have e2 : ∀ c q, (go (WS wd (lkI i) (fun _ => 0)) (0, c, q) a (a + half (b - a))).1 = q.headD ByteArray.empty := fun c q => by
          have z : (WS wd (lkI i) (fun _ => 0)).lk (0, c, q) a (a + half (b - a)) = (1, 0, c, q) := by show (lkI i a (a + half (b - a)), _) = _; rw [hk2]; rfl
          rw [go_stop (by rw [z]; show 1 < 2; omega), z]; rfl
        rw [e2]
        rfl
    · have hk : lkI i a b = 0 := by unfold lkI; rw [if_pos ⟨h1, h2⟩, if_pos (by omega)]
      have e : (WS wd (lkI i) (fun _ => 0)).lk (0, [hash], p) a b = (0, 0, [hash], p) := by show (lkI i a b, _) = _; rw [hk]; rfl
      rw [go_stop (by rw [e]; show 0 < 2; omega), e, dl_one h]
      rfl
theorem ldP_is (wd : Int) (i n : Nat) (hash : ByteArray) (path : List ByteArray) (h : i < n) (hl : path.length = cI i n) : ldP wd i n hash path = dl wd hash i n path := by
  unfold ldP
  rw [lead_is wd i hash n 0 n path rfl (Nat.zero_le _) h (by rw [cI_is h, hl]; exact Nat.le_refl _), Nat.sub_zero, Nat.sub_zero, List.take_of_length_le (by rw [cI_is h, hl]; exact Nat.le_refl _)]
end Go.Proofs.YthppkdjekfginaaGreatDoor.qf

namespace Go.Proofs.YthppkdjekfginaaGreatDoor.qi
open Go.RowKit Go.PlainAid
open Go.Proofs.YthppkdjekfginaaGreatDoor.pl Go.Proofs.YthppkdjekfginaaGreatDoor.pi Go.Proofs.YthppkdjekfginaaGreatDoor.pj Go.Proofs.YthppkdjekfginaaGreatDoor.rf Go.Proofs.YthppkdjekfginaaGreatDoor.ca Go.Proofs.YthppkdjekfginaaGreatDoor.cb Go.Proofs.YthppkdjekfginaaGreatDoor.cp Go.Proofs.YthppkdjekfginaaGreatDoor.ga Go.Proofs.YthppkdjekfginaaGreatDoor.aa Go.Proofs.YthppkdjekfginaaGreatDoor.ka Go.Proofs.YthppkdjekfginaaGreatDoor.kb Go.Proofs.YthppkdjekfginaaGreatDoor.kp Go.Proofs.YthppkdjekfginaaGreatDoor.mi Go.Proofs.YthppkdjekfginaaGreatDoor.lm Go.Proofs.YthppkdjekfginaaGreatDoor.co Go.Proofs.YthppkdjekfginaaGreatDoor.dc Go.Proofs.YthppkdjekfginaaGreatDoor.de Go.Proofs.YthppkdjekfginaaGreatDoor.df Go.Proofs.YthppkdjekfginaaGreatDoor.qa Go.Proofs.YthppkdjekfginaaGreatDoor.qb Go.Proofs.YthppkdjekfginaaGreatDoor.qc Go.Proofs.YthppkdjekfginaaGreatDoor.qe
set_option linter.unusedVariables false

-- hashes that are taken: the proof's, and the claimed ones
structure Tk (base tb : Nat) (vp vh : Value) (p h : List ByteArray) (u m : Nat) (w : World) : Prop where
  new : base ≤ tb
  box : w.heap[tb]? = some (.cells #[vp, .int .i64 u, vh, .int .i64 m] 94 (0, 0))
  op : Old base w vp p
  oh : Old base w vh h
  tab : Tab4 w
  big : 4 ≤ base ∧ base ≤ w.heap.size
theorem Tk.keep {base tb : Nat} {vp vh : Value} {p h : List ByteArray} {u m : Nat} {w w' : World} (t : Tk base tb vp vh p h u m w) (hb : Below w.heap.size w w') : Tk base tb vp vh p h u m w' :=
  have k : Kp (fun _ => False) w w' := Kp.of_below hb
  ⟨t.new, (hb.block _ (Array.getElem?_eq_some_iff.1 t.box).1).trans t.box, t.op.keep k (fun _ e => e.elim), t.oh.keep k (fun _ e => e.elim), t.tab.down hb, ⟨t.big.1, Nat.le_trans t.big.2 hb.size⟩⟩
theorem old_at {base : Nat} {w : World} {v : Value} {l : List ByteArray} {u : Nat} (h : Old base w v l) (hu : u < l.length) : ∃ g off cap, v = .slice (some ⟨g, off, none⟩) l.length cap ∧ g < base ∧ w.cell? ⟨g, off + u, none⟩ = some (.string (l.getD u ByteArray.empty)) := by
  obtain ⟨a, cap, rfl, hc, h0 | ⟨g, off, rfl, hl, hh⟩⟩ := h
  · omega
  · exact ⟨g, off, cap, rfl, hl, hh u hu⟩
theorem below_tk {base tb : Nat} {w : World} (h1 : base ≤ tb) (h2 : base ≤ w.heap.size) (o : Nat) (v : Value) (m : Nat) : Below base w ((w.setCell ⟨tb, o, none⟩ v).drewN m) := below_dN ((Below.refl _ _).setCell (p := ⟨tb, o, none⟩) h1 v) m
theorem Tk.set1 {base tb : Nat} {vp vh : Value} {p h : List ByteArray} {u m : Nat} {w : World} (t : Tk base tb vp vh p h u m w) (x : Nat) (d : Nat) : Tk base tb vp vh p h x m ((w.setCell ⟨tb, 1, none⟩ (.int .i64 x)).drewN d) := by
  have hb := below_tk t.new t.big.2 1 (.int .i64 (x : Int)) d
  have k : Kp (fun b => base ≤ b) w ((w.setCell ⟨tb, 1, none⟩ (.int .i64 (x : Int))).drewN d) := ⟨hb.os, hb.tape, hb.output, hb.size, fun k hk hn => hb.block k (by omega)⟩
  exact ⟨t.new, heap_setCell_same _ _ 1 _ _ _ t.box, t.op.keep k (fun _ e => e), t.oh.keep k (fun _ e => e), t.tab.below hb t.big.1, ⟨t.big.1, Nat.le_trans t.big.2 hb.size⟩⟩
theorem Tk.set3 {base tb : Nat} {vp vh : Value} {p h : List ByteArray} {u m : Nat} {w : World} (t : Tk base tb vp vh p h u m w) (x : Nat) (d : Nat) : Tk base tb vp vh p h u x ((w.setCell ⟨tb, 3, none⟩ (.int .i64 x)).drewN d) := by
  have hb := below_tk t.new t.big.2 3 (.int .i64 (x : Int)) d
  have k : Kp (fun b => base ≤ b) w ((w.setCell ⟨tb, 3, none⟩ (.int .i64 (x : Int))).drewN d) := ⟨hb.os, hb.tape, hb.output, hb.size, fun k hk hn => hb.block k (by omega)⟩
  exact ⟨t.new, heap_setCell_same _ _ 3 _ _ _ t.box, t.op.keep k (fun _ e => e), t.oh.keep k (fun _ e => e), t.tab.below hb t.big.1, ⟨t.big.1, Nat.le_trans t.big.2 hb.size⟩⟩
theorem nextD (base tb : Nat) (vp vh : Value) (p h : List ByteArray) (u m : Nat) (w : World) (t : Tk base tb vp vh p h u m w) (hu : u < p.length) (hz : p.length ≤ 140737488355328) :
    Calls Tryz.prog 99 #[.pointer (some ⟨tb, 0, none⟩)] w fun e w' => e = .returned (.string (p.getD u ByteArray.empty)) ∧ Tk base tb vp vh p h (u + 1) m w' ∧ Kp (fun b => b = tb) w w' := by
  obtain ⟨g, off, cap, rfl, hg, hc⟩ := old_at t.op hu
  have HS : Hid (∀ d, Tk base tb (.slice (some ⟨g, off, none⟩) p.length cap) vh p h (u + 1) m ((w.setCell ⟨tb, 1, none⟩ (.int .i64 ((u + 1 : Nat) : Int))).drewN d) ∧ Kp (fun b => b = tb) w ((w.setCell ⟨tb, 1, none⟩ (.int .i64 ((u + 1 : Nat) : Int))).drewN d)) := fun d => ⟨t.set1 (u + 1) d, (Kp.setCell (A := fun b => b = tb) w tb 1 _ rfl).trans (Kp.of_below (below_dN (Below.refl _ _) d))⟩
  have c1 : w.cell? ⟨tb, 1, none⟩ = some (.int .i64 u) := cell_of_row _ _ 1 _ _ _ t.box
  have f1 := frozen_of_row _ _ 1 _ _ t.box
  have bx := (HS.out 0).1.box
  have d0 : (w.setCell ⟨tb, 1, none⟩ (.int .i64 ((u + 1 : Nat) : Int))).cell? ⟨tb, 0, none⟩ = some (.slice (some ⟨g, off, none⟩) p.length cap) := cell_of_row _ _ 0 _ _ _ bx
  have d1 : (w.setCell ⟨tb, 1, none⟩ (.int .i64 ((u + 1 : Nat) : Int))).cell? ⟨tb, 1, none⟩ = some (.int .i64 ((u + 1 : Nat) : Int)) := cell_of_row _ _ 1 _ _ _ bx
  have hgt : g ≠ tb := by have := t.new; omega
  have d2 : (w.setCell ⟨tb, 1, none⟩ (.int .i64 ((u + 1 : Nat) : Int))).cell? ⟨g, off + u, none⟩ = some (.string (p.getD u ByteArray.empty)) := (Kp.setCell (A := fun b => b = tb) w tb 1 _ rfl).cell hc hgt
  obtain ⟨x, HX⟩ : ∃ x, Hid (p.getD u ByteArray.empty = x) := ⟨_, rfl⟩
  obtain ⟨l, HL⟩ : ∃ l, Hid (p.length = l) := ⟨_, rfl⟩
  rw [HX.out] at d2 ⊢
  rw [HL.out] at d0 hu hz HS ⊢
  have e1 : ((u + 1 : Nat) : Int) = (u : Int) + 1 := by omega
  have e2 : (u : Int) < l := by omega
  rw [e1] at d0 d1 d2 HS
  obtain ⟨W1, HW1⟩ : ∃ W1, W1 = w.setCell ⟨tb, 1, none⟩ (.int .i64 ((u : Int) + 1)) := ⟨_, rfl⟩
  rw [← HW1] at d0 d1 d2 HS
  clear bx hc hg t
  go_enter Tryz.func99, Tryz.ntmps99
  go_upto_region 2 with fail
  rw [← HW1]
  clear HW1 c1 f1
  go_quiet (fail)
  go_wp2
  go_ret
  exact ⟨rfl, (HS.out _).1, (HS.out _).2⟩
theorem claimD (base tb : Nat) (vp vh : Value) (p h : List ByteArray) (u m : Nat) (w : World) (t : Tk base tb vp vh p h u m w) (hu : m < h.length) (hz : h.length ≤ 140737488355328) :
    Calls Tryz.prog 106 #[.pointer (some ⟨tb, 0, none⟩)] w fun e w' => e = .returned (.string (h.getD m ByteArray.empty)) ∧ Tk base tb vp vh p h u (m + 1) w' ∧ Kp (fun b => b = tb) w w' := by
  obtain ⟨g, off, cap, rfl, hg, hc⟩ := old_at t.oh hu
  have HS : Hid (∀ d, Tk base tb vp (.slice (some ⟨g, off, none⟩) h.length cap) p h u (m + 1) ((w.setCell ⟨tb, 3, none⟩ (.int .i64 ((m + 1 : Nat) : Int))).drewN d) ∧ Kp (fun b => b = tb) w ((w.setCell ⟨tb, 3, none⟩ (.int .i64 ((m + 1 : Nat) : Int))).drewN d)) := fun d => ⟨t.set3 (m + 1) d, (Kp.setCell (A := fun b => b = tb) w tb 3 _ rfl).trans (Kp.of_below (below_dN (Below.refl _ _) d))⟩
  have c1 : w.cell? ⟨tb, 3, none⟩ = some (.int .i64 m) := cell_of_row _ _ 3 _ _ _ t.box
  have f1 := frozen_of_row _ _ 3 _ _ t.box
  have bx := (HS.out 0).1.box
  have d0 : (w.setCell ⟨tb, 3, none⟩ (.int .i64 ((m + 1 : Nat) : Int))).cell? ⟨tb, 2, none⟩ = some (.slice (some ⟨g, off, none⟩) h.length cap) := cell_of_row _ _ 2 _ _ _ bx
  have d1 : (w.setCell ⟨tb, 3, none⟩ (.int .i64 ((m + 1 : Nat) : Int))).cell? ⟨tb, 3, none⟩ = some (.int .i64 ((m + 1 : Nat) : Int)) := cell_of_row _ _ 3 _ _ _ bx
  have hgt : g ≠ tb := by have := t.new; omega
  have d2 : (w.setCell ⟨tb, 3, none⟩ (.int .i64 ((m + 1 : Nat) : Int))).cell? ⟨g, off + m, none⟩ = some (.string (h.getD m ByteArray.empty)) := (Kp.setCell (A := fun b => b = tb) w tb 3 _ rfl).cell hc hgt
  obtain ⟨x, HX⟩ : ∃ x, Hid (h.getD m ByteArray.empty = x) := ⟨_, rfl⟩
  obtain ⟨l, HL⟩ : ∃ l, Hid (h.length = l) := ⟨_, rfl⟩
  rw [HX.out] at d2 ⊢
  rw [HL.out] at d0 hu hz HS ⊢
  have e1 : ((m + 1 : Nat) : Int) = (m : Int) + 1 := by omega
  have e2 : (m : Int) < l := by omega
  rw [e1] at d0 d1 d2 HS
  obtain ⟨W1, HW1⟩ : ∃ W1, W1 = w.setCell ⟨tb, 3, none⟩ (.int .i64 ((m : Int) + 1)) := ⟨_, rfl⟩
  rw [← HW1] at d0 d1 d2 HS
  clear bx hc hg t
  go_enter Tryz.func106, Tryz.ntmps106
  go_upto_region 2 with fail
  rw [← HW1]
  clear HW1 c1 f1
  go_quiet (fail)
  go_wp2
  go_ret
  exact ⟨rfl, (HS.out _).1, (HS.out _).2⟩
end Go.Proofs.YthppkdjekfginaaGreatDoor.qi

namespace Go.Proofs.YthppkdjekfginaaGreatDoor.qg
open Go.RowKit Go.PlainAid
open Go.Proofs.YthppkdjekfginaaGreatDoor.pl Go.Proofs.YthppkdjekfginaaGreatDoor.pi Go.Proofs.YthppkdjekfginaaGreatDoor.pj Go.Proofs.YthppkdjekfginaaGreatDoor.rf Go.Proofs.YthppkdjekfginaaGreatDoor.ca Go.Proofs.YthppkdjekfginaaGreatDoor.cb Go.Proofs.YthppkdjekfginaaGreatDoor.cp Go.Proofs.YthppkdjekfginaaGreatDoor.ga Go.Proofs.YthppkdjekfginaaGreatDoor.aa Go.Proofs.YthppkdjekfginaaGreatDoor.ka Go.Proofs.YthppkdjekfginaaGreatDoor.kb Go.Proofs.YthppkdjekfginaaGreatDoor.kc Go.Proofs.YthppkdjekfginaaGreatDoor.kp Go.Proofs.YthppkdjekfginaaGreatDoor.lk Go.Proofs.YthppkdjekfginaaGreatDoor.lm Go.Proofs.YthppkdjekfginaaGreatDoor.mi Go.Proofs.YthppkdjekfginaaGreatDoor.co Go.Proofs.YthppkdjekfginaaGreatDoor.cn Go.Proofs.YthppkdjekfginaaGreatDoor.wt Go.Proofs.YthppkdjekfginaaGreatDoor.qa Go.Proofs.YthppkdjekfginaaGreatDoor.qb Go.Proofs.YthppkdjekfginaaGreatDoor.qc
set_option linter.unusedVariables false

-- how many leaves are claimed
theorem claimsM {xs : List Int} (hr : Ris xs) (n : Nat) : ∀ a b, b - a = n → a < b → (WL (fl (lkM (natL xs))) a b).length + cnt xs a = cnt xs b := by
  induction n using Nat.strongRecOn with
  | ind n ih =>
    intro a b hn hab
    by_cases h : cnt xs a = xs.length ∨ (b : Int) ≤ xs.getD (cnt xs a) 0
    · rw [WL_pass (lk := fl (lkM (natL xs))) (by unfold fl; rw [lkM_none hr h, if_neg (by omega), if_pos rfl]), cnt_none hr hab h]
      simp
    · have h1 : cnt xs a < xs.length := by have := cnt_le xs a; omega
      have h2 : xs.getD (cnt xs a) 0 < b := by omega
      have hk := lkM_some hr h1 h2
      by_cases h3 : b - a = 1
      · rw [if_pos h3] at hk
        rw [WL_take (lk := fl (lkM (natL xs))) (by unfold fl; rw [if_pos hk]), cnt_leaf hr h1 h2 h3]
        simp; omega
      · rw [if_neg h3] at hk
        have h4 : 2 ≤ b - a := by omega
        have hh := half_lt h4
        have i1 := ih (half (b - a)) (by omega) a (a + half (b - a)) (by omega) (by omega)
        have i2 := ih (b - a - half (b - a)) (by omega) (a + half (b - a)) b (by omega) (by omega)
        rw [WL_left (lk := fl (lkM (natL xs))) (by rw [fl_two (by omega)]; exact hk) h4, List.length_append]
        omega
theorem cnt_all {xs : List Int} (hr : Ris xs) {n : Nat} (h : ∀ j, j < xs.length → xs.getD j 0 < n) : cnt xs n = xs.length := cnt_is hr (Nat.le_refl _) h (fun j h1 h2 => by omega)
theorem text_reads (w : World) (h : ByteArray) : ReadsT (w.alloc (.cells #[.string h] 9)) (.slice (some ⟨w.heap.size, 0, none⟩) 1 1) [h] :=
  ⟨_, 1, rfl, Nat.le_refl _, .inr ⟨w.heap.size, 0, rfl, fun i hi => by
    obtain rfl : i = 0 := by simp at hi; omega
    rw [World.cell?_alloc_at _ _ _ _ rfl]; rfl⟩⟩
-- what is reckoned from leaves and a proof
def rk (wd : Int) (lk : Nat → Nat → Nat) (cur : Nat → Nat) (n : Nat) (hs proof : List ByteArray) : ByteArray := (go (WS wd lk cur) (cur 0, hs, proof) 0 n).1
def lookA (wd : Int) (lk : Nat → Nat → Nat) (cur : Nat → Nat) (n : Nat) (count : Int) (hs proof : List ByteArray) (root : ByteArray) : Int :=
  if okH wd hs = true then (if rH wd count proof [root] = 0 then (if rk wd lk cur n hs proof = root then 0 else 90) else rH wd count proof [root]) else 72
section
variable {D F : Nat → Prop} {SS : Nat → World → Prop} {lk : Nat → Nat → Nat} {cur : Nat → Nat} {lg : Nat} {lv : Array Value}
set_option maxHeartbeats 3200000 in
theorem lookC (S : Shp D F SS lk cur lg lv) (wd : Int) (hwd : i64 wd) (n base : Nat) (vh vp : Value) (hs proof : List ByteArray) (root : ByteArray) (h1 : 1 ≤ n) (hn : n ≤ 4611686018427387904) (w : World)
    (hss : SS (cur 0) w) (hR : Old base w vh hs) (hP : Old base w vp proof) (zh : hs.length ≤ 140737488355328) (zp : proof.length ≤ 140737488355328) (hT : Tab w) (hb1 : 4 ≤ base) (hb2 : base ≤ w.heap.size) (hfb : ∀ b, F b → base ≤ b) (hl : (WL (fl lk) 0 n).length ≤ hs.length) :
    Calls Tryz.prog 65 #[.int .i64 wd, .int .i64 n, .int .i64 ((WL lk 0 n).length : Nat), .func (.func lg) #[] lv, vh, vp, .string root] w fun e w' => e = .returned (.int .i64 (lookA wd lk cur n ((WL lk 0 n).length : Nat) hs proof root)) ∧ Below base w w' := by
  have RH : ∀ {v l}, Old base w v l → ReadsT w v l := fun h => by
    obtain ⟨a, cap, rfl, hc, h0 | ⟨g, off, rfl, _, hh⟩⟩ := h
    · exact ⟨a, cap, rfl, hc, .inl h0⟩
    · exact ⟨_, cap, rfl, hc, .inr ⟨g, off, rfl, hh⟩⟩
  have A1 : Hid (Calls _ _ _ _ _) := areC wd hwd vh hs w (RH hR) zh
  have B1 : Hid (Below w.heap.size w (w.alloc (.cells #[.string root] 9))) := (Below.refl _ _).alloc (Nat.le_refl _) _
  obtain ⟨cn, HCN⟩ : ∃ c, Hid ((WL lk 0 n).length = c) := ⟨_, rfl⟩
  have A2 : Hid (Calls _ _ _ _ _) := refuseH wd hwd ((WL lk 0 n).length : Nat) vp _ proof [root] _ ((RH hP).later B1.out) (text_reads w root) zp (by simp)
  have OB : Hid (Old base w vh hs ∧ Old base w vp proof) := ⟨hR, hP⟩
  obtain ⟨ha, hc, rfl, _⟩ := hR
  obtain ⟨pa, pc, rfl, _⟩ := hP
  have RC : Hid (okH wd hs = true → rH wd ((WL lk 0 n).length : Nat) proof [root] = 0 → ∀ w3, w3 = ((w.alloc (.cells #[.string root] 9)).alloc (.cells #[.slice ha hs.length hc] 74)).alloc (.cells #[.slice pa proof.length pc] 74) → Calls Tryz.prog 102 #[.int .i64 wd, .int .i64 n, .func (.func lg) #[] lv, .func (.func 48) #[.pointer (some ⟨w.heap.size + 1, 0, none⟩)] #[], .func (.func 48) #[.pointer (some ⟨w.heap.size + 1 + 1, 0, none⟩)] #[]] w3 fun e w' => e = .returned (.string (rk wd lk cur n hs proof)) ∧ Below base w w') := by
    intro ok1 ok2 w3 hw3
    have hlp : (WL lk 0 n).length ≤ proof.length ∧ Wide wd proof := by
      unfold rH at ok2
      by_cases q : (okH wd [root] && okH wd proof) = true
      · rw [if_pos q] at ok2
        rw [Bool.and_eq_true] at q
        by_cases q2 : (proof.length : Int) = ((WL lk 0 n).length : Nat)
        · exact ⟨by omega, okH_wide q.2⟩
        · rw [if_neg q2] at ok2; omega
      · rw [if_neg q] at ok2; omega
    obtain ⟨w1, e1⟩ : ∃ x, x = w.alloc (.cells #[.string root] 9) := ⟨_, rfl⟩
    obtain ⟨w2, e2⟩ : ∃ x, x = w1.alloc (.cells #[.slice ha hs.length hc] 74) := ⟨_, rfl⟩
    rw [← e1] at hw3 B1
    rw [← e2] at hw3
    have s1 : w1.heap.size = w.heap.size + 1 := by rw [e1]; simp
    have s2 : w2.heap.size = w.heap.size + 1 + 1 := by rw [e2]; simp [s1]
    have b2 : Below w1.heap.size w1 w2 := by rw [e2]; exact (Below.refl _ _).alloc (Nat.le_refl _) _
    have b3 : Below w2.heap.size w2 w3 := by rw [hw3]; exact (Below.refl _ _).alloc (Nat.le_refl _) _
    have n2 : w2.heap[w.heap.size + 1]? = some (.cells #[.slice ha hs.length hc] 74 (0, 0)) := by rw [← s1, e2]; exact heap_alloc_new w1 _
    have n3 : w3.heap[w.heap.size + 1 + 1]? = some (.cells #[.slice pa proof.length pc] 74 (0, 0)) := by rw [← s2, hw3]; exact heap_alloc_new w2 _
    have c3 : w3.heap[w.heap.size + 1]? = _ := (b3.block _ (by rw [s2]; omega)).trans n2
    have hb13 : Below w.heap.size w w3 := over (over B1.out b2) b3
    have kk : Kp no w w3 := Kp.of_below hb13
    refine (reckonC S wd n base (w.heap.size + 1) (w.heap.size + 1 + 1) hs proof h1 hn w3 (S.later hss hb13) ⟨by omega, _, c3, OB.out.1.keep kk (fun _ e => e.elim)⟩ ⟨by omega, _, n3, OB.out.2.keep kk (fun _ e => e.elim)⟩ (hT.down hb13) hb1 (Nat.le_trans hb2 hb13.size) (by omega) (fun e => by have := S.fl hss _ e; omega) (fun e => by have := S.fl hss _ e; omega) hfb hl hlp.1 (okH_wide ok1) hlp.2).mono fun e w' hh => ⟨hh.1, (hb13.mono hb2).trans hh.2.2⟩
  have HB2 : Hid (base ≤ w.heap.size) := hb2
  rw [HCN.out] at A2 RC ⊢
  unfold lookA
  obtain ⟨x, HX⟩ : ∃ x, Hid (okH wd hs = x) := ⟨_, rfl⟩
  rw [HX.out] at A1 RC ⊢
  obtain ⟨lh, HLH⟩ : ∃ l, Hid (hs.length = l) := ⟨_, rfl⟩
  obtain ⟨lp, HLP⟩ : ∃ l, Hid (proof.length = l) := ⟨_, rfl⟩
  rw [HLH.out] at A1 RC ⊢
  rw [HLP.out] at A2 RC ⊢
  have BX : Hid (Below base w (w.alloc (.cells #[.string root] 9))) := B1.out.mono hb2
  clear hss OB zh zp hT hb1 hfb hl RH
  cases x
  · rw [if_neg (by decide)]
    go_enter Tryz.func65, Tryz.ntmps65
    go_wp2_with fail
    refine A1.out.mono ?_
    rintro e w1 ⟨rfl, hw⟩
    subst hw
    go_wp2
    go_ret
    exact ⟨rfl, Below.refl _ _⟩
  · rw [if_pos rfl]
    by_cases h : rH wd cn proof [root] = 0
    · rw [if_pos h]
      have RC2 : Hid (∀ w3, w3 = _ → Calls _ _ _ _ _) := RC.out rfl h
      rw [h] at A2
      obtain ⟨z, HZ⟩ : ∃ z, Hid (rk wd lk cur n hs proof = z) := ⟨_, rfl⟩
      rw [HZ.out] at RC2 ⊢
      have MC : Hid (∀ w, Calls _ _ _ _ _) := fun w => matchC z root w
      obtain ⟨y, HY⟩ : ∃ y : Int, Hid ((if z = root then 0 else 90) = y) := ⟨_, rfl⟩
      rw [HY.out] at MC ⊢
      clear h RC
      go_enter Tryz.func65, Tryz.ntmps65
      go_wp2_with fail
      refine A1.out.mono ?_
      rintro e w1 ⟨rfl, hw⟩
      subst hw
      go_wp2_with fail
      refine A2.out.mono ?_
      rintro e w2 ⟨rfl, hw⟩
      have RC3 : Hid (Calls _ _ _ _ _) := RC2.out ((w2.alloc (.cells #[.slice ha lh hc] 74)).alloc (.cells #[.slice pa lp pc] 74)) (by rw [hw])
      have s2 : w2.heap.size = w1.heap.size + 1 := by rw [hw]; simp
      clear hw
      go_wp2_with fail
      refine RC3.out.mono ?_
      rintro e w4 ⟨rfl, hb4⟩
      have B4 : Hid (Below base w1 w4) := hb4
      clear hb4
      go_wp2_with fail
      refine (MC.out _).mono ?_
      rintro e w5 ⟨rfl, hw⟩
      subst hw
      go_wp2
      go_ret
      exact ⟨rfl, B4.out⟩
    · rw [if_neg h]
      have q : (rH wd cn proof [root] == 0) = false := by rw [beq_eq_false_iff_ne]; exact h
      obtain ⟨r, HRR⟩ : ∃ r, Hid (rH wd cn proof [root] = r) := ⟨_, rfl⟩
      rw [HRR.out] at A2 q ⊢
      clear h RC
      go_enter Tryz.func65, Tryz.ntmps65
      go_wp2_with fail
      refine A1.out.mono ?_
      rintro e w1 ⟨rfl, hw⟩
      subst hw
      go_wp2_with fail
      refine A2.out.mono ?_
      rintro e w2 ⟨rfl, hw⟩
      have B2 : Hid (Below base w1 w2) := by subst hw; exact BX.out
      clear hw
      go_wp2
      go_ret
      exact ⟨rfl, B2.out⟩
end
end Go.Proofs.YthppkdjekfginaaGreatDoor.qg

namespace Go.Proofs.YthppkdjekfginaaGreatDoor.qj
open Go.RowKit Go.PlainAid
open Go.Proofs.YthppkdjekfginaaGreatDoor.pl Go.Proofs.YthppkdjekfginaaGreatDoor.pi Go.Proofs.YthppkdjekfginaaGreatDoor.pj Go.Proofs.YthppkdjekfginaaGreatDoor.rf Go.Proofs.YthppkdjekfginaaGreatDoor.ca Go.Proofs.YthppkdjekfginaaGreatDoor.cb Go.Proofs.YthppkdjekfginaaGreatDoor.cp Go.Proofs.YthppkdjekfginaaGreatDoor.ga Go.Proofs.YthppkdjekfginaaGreatDoor.aa Go.Proofs.YthppkdjekfginaaGreatDoor.ka Go.Proofs.YthppkdjekfginaaGreatDoor.kb Go.Proofs.YthppkdjekfginaaGreatDoor.kp Go.Proofs.YthppkdjekfginaaGreatDoor.mi Go.Proofs.YthppkdjekfginaaGreatDoor.lm Go.Proofs.YthppkdjekfginaaGreatDoor.co Go.Proofs.YthppkdjekfginaaGreatDoor.dc Go.Proofs.YthppkdjekfginaaGreatDoor.de Go.Proofs.YthppkdjekfginaaGreatDoor.df Go.Proofs.YthppkdjekfginaaGreatDoor.dw Go.Proofs.YthppkdjekfginaaGreatDoor.qa Go.Proofs.YthppkdjekfginaaGreatDoor.qb Go.Proofs.YthppkdjekfginaaGreatDoor.qc Go.Proofs.YthppkdjekfginaaGreatDoor.qe Go.Proofs.YthppkdjekfginaaGreatDoor.qi
set_option linter.unusedVariables false

theorem headD_drop (l : List ByteArray) (u : Nat) : (l.drop u).headD ByteArray.empty = l.getD u ByteArray.empty := by
  rw [List.headD_eq_head?_getD, List.head?_drop, List.getD_eq_getElem?_getD]
theorem WL_congr {lk lk' : Nat → Nat → Nat} (n : Nat) : ∀ a b, b - a = n → (∀ c d, a ≤ c → c < d → d ≤ b → lk c d = lk' c d) → a < b → WL lk a b = WL lk' a b := by
  induction n using Nat.strongRecOn with
  | ind n ih =>
    intro a b hn h hab
    have e := h a b (Nat.le_refl _) hab (Nat.le_refl _)
    by_cases h0 : lk a b = 0
    · rw [WL_pass h0, WL_pass (by rw [← e]; exact h0)]
    by_cases h1 : lk a b = 1
    · rw [WL_take h1, WL_take (by rw [← e]; exact h1)]
    by_cases h2 : 2 ≤ b - a
    · have hh := half_lt h2
      have i1 := ih (half (b - a)) (by omega) a (a + half (b - a)) (by omega) (fun c d q1 q2 q3 => h c d q1 q2 (by omega)) (by omega)
      have i2 := ih (b - a - half (b - a)) (by omega) (a + half (b - a)) b (by omega) (fun c d q1 q2 q3 => h c d (by omega) q2 q3) (by omega)
      by_cases h3 : lk a b = 2
      · rw [WL_left h3 h2, WL_left (by rw [← e]; exact h3) h2, i1, i2]
      · rw [WL_right (by omega) h2, WL_right (by rw [← e]; omega) h2, i1, i2]
    · rw [WL, if_neg h0, if_neg h1, dif_neg h2, WL, if_neg (by rw [← e]; exact h0), if_neg (by rw [← e]; exact h1), dif_neg h2]
theorem fl_congr {lk lk' : Nat → Nat → Nat} {a b : Nat} (h : lk a b = lk' a b) : fl lk a b = fl lk' a b := by unfold fl; rw [h]
-- what is reckoned, without the shape's mind
def gp (wd : Int) (lk : Nat → Nat → Nat) (c p : List ByteArray) (a b : Nat) : ByteArray × List ByteArray × List ByteArray :=
  if lk a b = 0 then (c.headD ByteArray.empty, c.drop 1, p)
  else if lk a b = 1 then (p.headD ByteArray.empty, c, p.drop 1)
  else if h : 2 ≤ b - a then
    if lk a b = 2 then
      (NF wd (gp wd lk c p a (a + half (b - a))).1 (gp wd lk (gp wd lk c p a (a + half (b - a))).2.1 (gp wd lk c p a (a + half (b - a))).2.2 (a + half (b - a)) b).1, (gp wd lk (gp wd lk c p a (a + half (b - a))).2.1 (gp wd lk c p a (a + half (b - a))).2.2 (a + half (b - a)) b).2)
    else
      (NF wd (gp wd lk (gp wd lk c p (a + half (b - a)) b).2.1 (gp wd lk c p (a + half (b - a)) b).2.2 a (a + half (b - a))).1 (gp wd lk c p (a + half (b - a)) b).1, (gp wd lk (gp wd lk c p (a + half (b - a)) b).2.1 (gp wd lk c p (a + half (b - a)) b).2.2 a (a + half (b - a))).2)
  else (c.headD ByteArray.empty, c.drop 1, p)
termination_by b - a
decreasing_by all_goals (have := half_lt h; omega)
theorem gp_claim {wd : Int} {lk : Nat → Nat → Nat} {c p : List ByteArray} {a b : Nat} (h : lk a b = 0) : gp wd lk c p a b = (c.headD ByteArray.empty, c.drop 1, p) := by rw [gp, if_pos h]
theorem gp_proof {wd : Int} {lk : Nat → Nat → Nat} {c p : List ByteArray} {a b : Nat} (h : lk a b = 1) : gp wd lk c p a b = (p.headD ByteArray.empty, c, p.drop 1) := by rw [gp, if_neg (by omega), if_pos h]
theorem gp_left {wd : Int} {lk : Nat → Nat → Nat} {c p : List ByteArray} {a b : Nat} (h : lk a b = 2) (h2 : 2 ≤ b - a) : gp wd lk c p a b = (NF wd (gp wd lk c p a (a + half (b - a))).1 (gp wd lk (gp wd lk c p a (a + half (b - a))).2.1 (gp wd lk c p a (a + half (b - a))).2.2 (a + half (b - a)) b).1, (gp wd lk (gp wd lk c p a (a + half (b - a))).2.1 (gp wd lk c p a (a + half (b - a))).2.2 (a + half (b - a)) b).2) := by rw [gp, if_neg (by omega), if_neg (by omega), dif_pos h2, if_pos h]
theorem gp_right {wd : Int} {lk : Nat → Nat → Nat} {c p : List ByteArray} {a b : Nat} (h : 3 ≤ lk a b) (h2 : 2 ≤ b - a) : gp wd lk c p a b = (NF wd (gp wd lk (gp wd lk c p (a + half (b - a)) b).2.1 (gp wd lk c p (a + half (b - a)) b).2.2 a (a + half (b - a))).1 (gp wd lk c p (a + half (b - a)) b).1, (gp wd lk (gp wd lk c p (a + half (b - a)) b).2.1 (gp wd lk c p (a + half (b - a)) b).2.2 a (a + half (b - a))).2) := by rw [gp, if_neg (by omega), if_neg (by omega), dif_pos h2, if_neg (by omega)]
theorem gp_odd {wd : Int} {lk : Nat → Nat → Nat} {c p : List ByteArray} {a b : Nat} (h : 2 ≤ lk a b) (h2 : ¬ 2 ≤ b - a) : gp wd lk c p a b = (c.headD ByteArray.empty, c.drop 1, p) := by rw [gp, if_neg (by omega), if_neg (by omega), dif_neg h2]
theorem go_gp (wd : Int) (lk : Nat → Nat → Nat) (cur : Nat → Nat) (n : Nat) : ∀ a b x c p, b - a = n → (go (WS wd lk cur) (x, c, p) a b).1 = (gp wd lk c p a b).1 ∧ (go (WS wd lk cur) (x, c, p) a b).2.2 = (gp wd lk c p a b).2 := by
  induction n using Nat.strongRecOn with
  | ind n ih =>
    intro a b x c p hn
    have z : (WS wd lk cur).lk (x, c, p) a b = (lk a b, (if lk a b < 2 then cur b else x), c, p) := rfl
    generalize hy : (if lk a b < 2 then cur b else x) = y at z
    by_cases h0 : lk a b = 0
    · rw [go_stop (by rw [z]; show lk a b < 2; omega), z, gp_claim h0]
      show ((WS wd lk cur).hv (y, c, p) a b (lk a b)).1 = _ ∧ _
      rw [h0]
      exact ⟨rfl, rfl⟩
    by_cases h1 : lk a b = 1
    · rw [go_stop (by rw [z]; show lk a b < 2; omega), z, gp_proof h1]
      show ((WS wd lk cur).hv (y, c, p) a b (lk a b)).1 = _ ∧ _
      rw [h1]
      exact ⟨rfl, rfl⟩
    by_cases h2 : 2 ≤ b - a
    · have hh := half_lt h2
      by_cases h3 : lk a b = 2
      · obtain ⟨l1, l2⟩ := ih (half (b - a)) (by omega) a (a + half (b - a)) y c p (by omega)
        obtain ⟨r1, r2⟩ := ih (b - a - half (b - a)) (by omega) (a + half (b - a)) b (go (WS wd lk cur) (y, c, p) a (a + half (b - a))).2.1 (go (WS wd lk cur) (y, c, p) a (a + half (b - a))).2.2.1 (go (WS wd lk cur) (y, c, p) a (a + half (b - a))).2.2.2 (by omega)
        rw [go_left (by rw [z]; exact h3) h2, gp_left h3 h2, z]
        rw [← l2]
        exact ⟨(congrArg (fun q => NF wd q _) l1).trans (congrArg (NF wd _) r1), r2⟩
      · obtain ⟨l1, l2⟩ := ih (b - a - half (b - a)) (by omega) (a + half (b - a)) b y c p (by omega)
        obtain ⟨r1, r2⟩ := ih (half (b - a)) (by omega) a (a + half (b - a)) (go (WS wd lk cur) (y, c, p) (a + half (b - a)) b).2.1 (go (WS wd lk cur) (y, c, p) (a + half (b - a)) b).2.2.1 (go (WS wd lk cur) (y, c, p) (a + half (b - a)) b).2.2.2 (by omega)
        rw [go_right (by rw [z]; show 3 ≤ lk a b; omega) h2, gp_right (by omega) h2, z]
        rw [← l2]
        exact ⟨(congrArg (fun q => NF wd q _) r1).trans (congrArg (NF wd _) l1), r2⟩
    · rw [go, if_neg (by rw [z]; show ¬ lk a b < 2; omega), dif_neg h2, z, gp_odd (by omega) h2]
      exact ⟨rfl, rfl⟩
theorem gp_state (wd : Int) {lk : Nat → Nat → Nat} (hw : ∀ {a b}, a < b → 2 ≤ lk a b → 2 ≤ b - a) (hf : ∀ a b, lk a b ≤ 3) {a b : Nat} (hab : a < b) (c p : List ByteArray) : (gp wd lk c p a b).2 = (c.drop (WL (fl lk) a b).length, p.drop (WL lk a b).length) := by
  rw [← (go_gp wd lk (fun _ => 0) (b - a) a b 0 c p rfl).2, go_state wd hw hf (cur := fun _ => 0) (fun _ _ => rfl) (b - a) a b c p rfl hab]
theorem gp_congr (wd : Int) {lk lk' : Nat → Nat → Nat} (n : Nat) : ∀ a b c p, b - a = n → (∀ c d, a ≤ c → c < d → d ≤ b → lk c d = lk' c d) → a < b → gp wd lk c p a b = gp wd lk' c p a b := by
  induction n using Nat.strongRecOn with
  | ind n ih =>
    intro a b c p hn h hab
    have e := h a b (Nat.le_refl _) hab (Nat.le_refl _)
    by_cases h0 : lk a b = 0
    · rw [gp_claim h0, gp_claim (by rw [← e]; exact h0)]
    by_cases h1 : lk a b = 1
    · rw [gp_proof h1, gp_proof (by rw [← e]; exact h1)]
    by_cases h2 : 2 ≤ b - a
    · have hh := half_lt h2
      have i1 := fun c p => ih (half (b - a)) (by omega) a (a + half (b - a)) c p (by omega) (fun c d q1 q2 q3 => h c d q1 q2 (by omega)) (by omega)
      have i2 := fun c p => ih (b - a - half (b - a)) (by omega) (a + half (b - a)) b c p (by omega) (fun c d q1 q2 q3 => h c d (by omega) q2 q3) (by omega)
      by_cases h3 : lk a b = 2
      · rw [gp_left h3 h2, gp_left (by rw [← e]; exact h3) h2, i1, i2]
      · rw [gp_right (by omega) h2, gp_right (by rw [← e]; omega) h2, i2, i1]
    · rw [gp_odd (by omega) h2, gp_odd (by rw [← e]; omega) h2]
theorem lkM_congr {ps qs : List Nat} {c d : Nat} (h : ∀ p, c ≤ p → p < d → (p ∈ ps ↔ p ∈ qs)) : lkM ps c d = lkM qs c d := by
  unfold lkM
  have e : (∃ p ∈ ps, c ≤ p ∧ p < d) ↔ (∃ p ∈ qs, c ≤ p ∧ p < d) := ⟨fun ⟨p, h1, h2, h3⟩ => ⟨p, (h p h2 h3).1 h1, h2, h3⟩, fun ⟨p, h1, h2, h3⟩ => ⟨p, (h p h2 h3).2 h1, h2, h3⟩⟩
  by_cases g : ∃ p ∈ ps, c ≤ p ∧ p < d
  · rw [if_pos g, if_pos (e.1 g)]
  · rw [if_neg g, if_neg (fun x => g (e.2 x))]
theorem mem_in {xs : List Int} (h0 : ∀ p ∈ xs, (0 : Int) ≤ p) {a b p : Nat} (h1 : a ≤ p) (h2 : p < b) : p ∈ natL xs ↔ p ∈ natL (inX xs a b) := by
  unfold natL inX
  rw [List.mem_map, List.mem_map]
  constructor
  · rintro ⟨x, hx, rfl⟩
    have := h0 x hx
    exact ⟨x, List.mem_filter.2 ⟨hx, by rw [Bool.and_eq_true, decide_eq_true_eq, decide_eq_true_eq]; omega⟩, rfl⟩
  · rintro ⟨x, hx, rfl⟩
    exact ⟨x, (List.mem_filter.1 hx).1, rfl⟩
theorem wideM {ps : List Nat} {a b : Nat} (hab : a < b) (h : 2 ≤ lkM ps a b) : 2 ≤ b - a := by
  unfold lkM at h
  split at h
  · split at h <;> omega
  · omega
theorem fourM (ps : List Nat) (a b : Nat) : lkM ps a b ≤ 3 := by
  unfold lkM
  split
  · split <;> omega
  · omega
end Go.Proofs.YthppkdjekfginaaGreatDoor.qj
