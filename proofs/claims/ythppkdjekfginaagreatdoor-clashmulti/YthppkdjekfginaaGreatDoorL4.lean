import Derived.Test.YthppkdjekfginaaGreatDoorL2
import Derived.Test.YthppkdjekfginaaGreatDoorL1
import Derived.Test.YthppkdjekfginaaGreatDoorG5
import Derived.Test.YthppkdjekfginaaGreatDoorG4
import Derived.Laws.EntriesVeiled
import Derived.Test.YthppkdjekfginaaGreatDoorL3
import Derived.Deep.RegionWith
namespace Go.Proofs.YthppkdjekfginaaGreatDoor.un
open Go.RowKit Go.PlainAid
open Go.Proofs.YthppkdjekfginaaGreatDoor.pl Go.Proofs.YthppkdjekfginaaGreatDoor.pi Go.Proofs.YthppkdjekfginaaGreatDoor.pj Go.Proofs.YthppkdjekfginaaGreatDoor.ca Go.Proofs.YthppkdjekfginaaGreatDoor.cb Go.Proofs.YthppkdjekfginaaGreatDoor.cp Go.Proofs.YthppkdjekfginaaGreatDoor.ga Go.Proofs.YthppkdjekfginaaGreatDoor.gb Go.Proofs.YthppkdjekfginaaGreatDoor.aa Go.Proofs.YthppkdjekfginaaGreatDoor.ba Go.Proofs.YthppkdjekfginaaGreatDoor.bb Go.Proofs.YthppkdjekfginaaGreatDoor.ka Go.Proofs.YthppkdjekfginaaGreatDoor.kb Go.Proofs.YthppkdjekfginaaGreatDoor.kc Go.Proofs.YthppkdjekfginaaGreatDoor.kp Go.Proofs.YthppkdjekfginaaGreatDoor.lk Go.Proofs.YthppkdjekfginaaGreatDoor.qa Go.Proofs.YthppkdjekfginaaGreatDoor.qb Go.Proofs.YthppkdjekfginaaGreatDoor.ta Go.Proofs.YthppkdjekfginaaGreatDoor.tb Go.Proofs.YthppkdjekfginaaGreatDoor.td Go.Proofs.YthppkdjekfginaaGreatDoor.tc Go.Proofs.YthppkdjekfginaaGreatDoor.ua Go.Proofs.YthppkdjekfginaaGreatDoor.ub Go.Proofs.YthppkdjekfginaaGreatDoor.ma Go.Proofs.YthppkdjekfginaaGreatDoor.uh Go.Proofs.YthppkdjekfginaaGreatDoor.ui Go.Proofs.YthppkdjekfginaaGreatDoor.uj
set_option linter.unusedVariables false

-- a pile of the proof's hashes
structure KPile (base pb : Nat) (l : List ByteArray) (w : World) : Prop where
  new : base ≤ pb
  box : ∃ v, w.heap[pb]? = some (.cells #[v] 41 (0, 0)) ∧ Old base w v l
theorem KPile.keep {base pb : Nat} {l : List ByteArray} {w w' : World} (h : KPile base pb l w) {G : Nat → Prop} (k : Kp G w w') (hg : ∀ b, G b → base ≤ b) (hp : ¬ G pb) : KPile base pb l w' := by
  obtain ⟨v, hv, ho⟩ := h.box
  exact ⟨h.new, v, (k.block _ (Array.getElem?_eq_some_iff.1 hv).1 hp).trans hv, ho.keep k hg⟩
theorem KPile.lt {base pb : Nat} {l : List ByteArray} {w : World} (h : KPile base pb l w) : pb < w.heap.size := by
  obtain ⟨v, hv, _⟩ := h.box
  exact (Array.getElem?_eq_some_iff.1 hv).1
theorem knext (base pb : Nat) (h : ByteArray) (t : List ByteArray) (a b : Nat) (w0 : World) (hP0 : KPile base pb (h :: t) w0) :
    Calls Tryz.prog 20 #[.pointer (some ⟨pb, 0, none⟩), .agg #[.int .i64 a, .int .i64 b]] w0 fun e w' => e = .returned (.string h) ∧ KPile base pb t w' ∧ Kp (fun b => b = pb) w0 w' := by
  obtain ⟨w, HW⟩ : ∃ w, Hid (w = w0.alloc (.cells #[.int .i64 a, .int .i64 b] 43)) := ⟨_, rfl⟩
  have BW : Hid (Kp (fun b => b = pb) w0 w) := by rw [HW.out]; exact Kp.of_below ((Below.refl _ _).alloc (Nat.le_refl _) _)
  have hP : KPile base pb (h :: t) w := hP0.keep (G := no) (by rw [HW.out]; exact Kp.of_below ((Below.refl _ _).alloc (Nat.le_refl _) _)) (fun _ e => e.elim) (fun e => e)
  obtain ⟨hnew, v, hv0, aa, cap, rfl, hcap, hh⟩ := hP
  rw [List.length_cons] at hv0 hcap hh
  obtain ⟨g, off, rfl, hg, hc⟩ := hh.resolve_left (by omega)
  have c0 : w.cell? ⟨pb, 0, none⟩ = some (.slice (some ⟨g, off, none⟩) (t.length + 1) cap) := cell_of_row _ _ 0 _ _ _ hv0
  have f0 := frozen_of_row _ _ 0 _ _ hv0
  have x0 := hc 0 (by omega)
  rw [Nat.add_zero] at x0
  have x1 : w.cell? ⟨g, off, none⟩ = some (.string h) := x0
  have HV : Hid (w.heap[pb]? = _) := hv0
  have HC : Hid (∀ i, i < t.length → w.cell? ⟨g, off + 1 + i, none⟩ = some (.string (t.getD i ByteArray.empty))) := fun i hi => by
    have := hc (i + 1) (by omega)
    rw [show off + 1 + i = off + (i + 1) by omega, this]
    rfl
  obtain ⟨n, HN⟩ : ∃ n, Hid (t.length = n) := ⟨_, rfl⟩
  have HP : Hid (∀ (aa : Option Addr), (t.length = 0 ∨ aa = some ⟨g, off + 1, none⟩) → KPile base pb t (w.setCell ⟨pb, 0, none⟩ (.slice aa t.length (cap - 1)))) := by
    intro aa haa
    have hk : Kp (fun q => q = pb) w (w.setCell ⟨pb, 0, none⟩ (.slice aa t.length (cap - 1))) := Kp.setCell _ _ _ _ rfl
    refine ⟨hnew, _, heap_setCell_same _ _ 0 _ _ _ HV.out, aa, cap - 1, rfl, by omega, ?_⟩
    rcases haa with h | h
    · exact .inl h
    · exact .inr ⟨g, off + 1, h, hg, fun i hi => hk.cell (HC.out i hi) (fun e => by omega)⟩
  have HK : Hid (∀ v, Kp (fun b => b = pb) w0 (w.setCell ⟨pb, 0, none⟩ v)) := fun v => BW.out.trans (Kp.setCell _ _ _ _ rfl)
  have hgp : g ≠ pb := by omega
  have hn1 : ((n : Int) + 1) - 1 = n := by omega
  rw [HN.out] at c0 HP hcap
  have hw : w0.alloc (.cells #[.int .i64 a, .int .i64 b] 43) = w := HW.out.symm
  clear hv0 hh hc x0 hnew hg BW hP0
  by_cases hc1 : cap = 1
  · subst hc1
    obtain rfl : n = 0 := by omega
    go_enter Tryz.func20, Tryz.ntmps20
    go_wp2_with (rw [hw])
    go_ret
    exact ⟨rfl, HP.out _ (.inl (by first | rfl | trivial)), HK.out _⟩
  · go_enter Tryz.func20, Tryz.ntmps20
    go_wp2_with (rw [hw])
    go_ret
    exact ⟨rfl, by simpa using HP.out _ (.inr rfl), by simpa using HK.out _⟩
-- two spans that meet
theorem meetsC (i j a b : Nat) (w : World) : Calls Tryz.prog 32 #[.agg #[.int .i64 i, .int .i64 j], .agg #[.int .i64 a, .int .i64 b]] w fun e w' => e = .returned (.bool (decide (i < b ∧ a < j))) ∧ Below w.heap.size w w' := by
  have B2 : Hid (Below w.heap.size w ((w.alloc (.cells #[.int .i64 i, .int .i64 j] 43)).alloc (.cells #[.int .i64 a, .int .i64 b] 43))) := ((Below.refl _ _).alloc (Nat.le_refl _) _).alloc (by simp) _
  obtain ⟨x0, x1, y0, y1⟩ := wt.two_box w (.int .i64 i) (.int .i64 j) (.int .i64 a) (.int .i64 b) 43 43
  by_cases h1 : i < b
  · have d1 : decide (i < b) = true := decide_eq_true h1
    by_cases h2 : a < j
    · have d2 : decide (a < j) = true := decide_eq_true h2
      rw [decide_eq_true (show i < b ∧ a < j from ⟨h1, h2⟩)]
      clear h1 h2
      go_enter Tryz.func32, Tryz.ntmps32
      go_wp2
      go_ret
      exact ⟨rfl, B2.out⟩
    · have d2 : decide (a < j) = false := decide_eq_false h2
      rw [decide_eq_false (show ¬ (i < b ∧ a < j) from fun h => h2 h.2)]
      clear h1 h2
      go_enter Tryz.func32, Tryz.ntmps32
      go_wp2
      go_ret
      exact ⟨rfl, B2.out⟩
  · have d1 : decide (i < b) = false := decide_eq_false h1
    rw [decide_eq_false (show ¬ (i < b ∧ a < j) from fun h => h1 h.1)]
    clear h1
    go_enter Tryz.func32, Tryz.ntmps32
    go_wp2
    go_ret
    exact ⟨rfl, B2.out⟩
-- what is asked of the proof's hashes ahead of a part
def PW (wd : Int) (lk : Nat → Nat → Nat) (N : Nat) (x : List ByteArray) (a b : Nat) : Prop := (WL lk a b).length ≤ x.length ∧ Wide wd x ∧ b ≤ N
theorem PW.left {wd : Int} {lk : Nat → Nat → Nat} {lf : Nat → ByteArray} {N : Nat} {x : List ByteArray} {a b : Nat} (hz : ∀ a b, lk a b = 0 → ¬ 2 ≤ b - a) (h : PW wd lk N x a b) (h3 : lk a b = 2) (h2 : 2 ≤ b - a) : PW wd lk N x a (a + half (b - a)) ∧ PW wd lk N (gw (HH wd) lk lf nx x a (a + half (b - a))).2 (a + half (b - a)) b := by
  have hh := half_lt h2
  obtain ⟨h1, hw, hb⟩ := h
  rw [WL_left h3 h2, List.length_append] at h1
  rw [gw_nx hz _ _ _ _ rfl]
  exact ⟨⟨by omega, hw, by omega⟩, ⟨by rw [List.length_drop]; omega, hw.drop _, hb⟩⟩
theorem PW.right {wd : Int} {lk : Nat → Nat → Nat} {lf : Nat → ByteArray} {N : Nat} {x : List ByteArray} {a b : Nat} (hz : ∀ a b, lk a b = 0 → ¬ 2 ≤ b - a) (h : PW wd lk N x a b) (h1' : lk a b ≠ 1) (h3 : lk a b ≠ 2) (h2 : 2 ≤ b - a) : PW wd lk N x (a + half (b - a)) b ∧ PW wd lk N (gw (HH wd) lk lf nx x (a + half (b - a)) b).2 a (a + half (b - a)) := by
  have hh := half_lt h2
  have h0 : lk a b ≠ 0 := fun e => hz a b e h2
  obtain ⟨h1, hw, hb⟩ := h
  rw [WL_right (by omega) h2, List.length_append] at h1
  rw [gw_nx hz _ _ _ _ rfl]
  exact ⟨⟨by omega, hw, hb⟩, ⟨by rw [List.length_drop]; omega, hw.drop _, by omega⟩⟩
end Go.Proofs.YthppkdjekfginaaGreatDoor.un

namespace Go.Proofs.YthppkdjekfginaaGreatDoor.uo
open Go.RowKit Go.PlainAid
open Go.Proofs.YthppkdjekfginaaGreatDoor.pl Go.Proofs.YthppkdjekfginaaGreatDoor.pi Go.Proofs.YthppkdjekfginaaGreatDoor.pj Go.Proofs.YthppkdjekfginaaGreatDoor.ca Go.Proofs.YthppkdjekfginaaGreatDoor.cb Go.Proofs.YthppkdjekfginaaGreatDoor.cp Go.Proofs.YthppkdjekfginaaGreatDoor.ga Go.Proofs.YthppkdjekfginaaGreatDoor.gb Go.Proofs.YthppkdjekfginaaGreatDoor.aa Go.Proofs.YthppkdjekfginaaGreatDoor.ba Go.Proofs.YthppkdjekfginaaGreatDoor.bb Go.Proofs.YthppkdjekfginaaGreatDoor.ka Go.Proofs.YthppkdjekfginaaGreatDoor.kb Go.Proofs.YthppkdjekfginaaGreatDoor.kc Go.Proofs.YthppkdjekfginaaGreatDoor.kp Go.Proofs.YthppkdjekfginaaGreatDoor.lk Go.Proofs.YthppkdjekfginaaGreatDoor.qa Go.Proofs.YthppkdjekfginaaGreatDoor.qb Go.Proofs.YthppkdjekfginaaGreatDoor.ta Go.Proofs.YthppkdjekfginaaGreatDoor.tb Go.Proofs.YthppkdjekfginaaGreatDoor.td Go.Proofs.YthppkdjekfginaaGreatDoor.tc Go.Proofs.YthppkdjekfginaaGreatDoor.ua Go.Proofs.YthppkdjekfginaaGreatDoor.ub Go.Proofs.YthppkdjekfginaaGreatDoor.ma Go.Proofs.YthppkdjekfginaaGreatDoor.uh Go.Proofs.YthppkdjekfginaaGreatDoor.ui Go.Proofs.YthppkdjekfginaaGreatDoor.uj Go.Proofs.YthppkdjekfginaaGreatDoor.un
set_option linter.unusedVariables false

theorem box515 (w : World) (v0 v1 v2 v3 v4 y u0 u1 u2 u3 u4 : Value) (t t' t'' : TypeId) : ∀ W, W = ((w.alloc (.cells #[v0, v1, v2, v3, v4] t)).alloc (.cells #[y] t')).alloc (.cells #[u0, u1, u2, u3, u4] t'') → Below w.heap.size w W ∧ W.cell? ⟨w.heap.size, 0, none⟩ = some v0 ∧ W.cell? ⟨w.heap.size + 1, 0, none⟩ = some y ∧ W.cell? ⟨w.heap.size + 1 + 1, 0, none⟩ = some u0 ∧ W.cell? ⟨w.heap.size + 1 + 1, 1, none⟩ = some u1 ∧ W.cell? ⟨w.heap.size + 1 + 1, 2, none⟩ = some u2 ∧ W.cell? ⟨w.heap.size + 1 + 1, 3, none⟩ = some u3 ∧ W.cell? ⟨w.heap.size + 1 + 1, 4, none⟩ = some u4 := by
  intro W hW
  obtain ⟨A, hA⟩ : ∃ A, A = w.alloc (.cells #[v0, v1, v2, v3, v4] t) := ⟨_, rfl⟩
  obtain ⟨D, hD⟩ : ∃ D, D = A.alloc (.cells #[y] t') := ⟨_, rfl⟩
  rw [← hA, ← hD] at hW
  have s1 : A.heap.size = w.heap.size + 1 := by rw [hA]; simp
  have s2 : D.heap.size = w.heap.size + 1 + 1 := by rw [hD]; simp [s1]
  have b1 : Below w.heap.size w A := by rw [hA]; exact (Below.refl _ _).alloc (Nat.le_refl _) _
  have b2 : Below A.heap.size A D := by rw [hD]; exact (Below.refl _ _).alloc (Nat.le_refl _) _
  have b3 : Below D.heap.size D W := by rw [hW]; exact (Below.refl _ _).alloc (Nat.le_refl _) _
  have c : ∀ (k : Nat) v, #[u0, u1, u2, u3, u4][k]? = some v → W.cell? ⟨w.heap.size + 1 + 1, k, none⟩ = some v := fun k v hk => by
    rw [← s2, hW, World.cell?_alloc_at _ _ _ _ rfl]; exact hk
  refine ⟨over b1 (over b2 b3), ?_, ?_, c 0 _ rfl, c 1 _ rfl, c 2 _ rfl, c 3 _ rfl, c 4 _ rfl⟩
  · refine ((over b2 b3).cell (p := ⟨w.heap.size, 0, none⟩) (by show w.heap.size < _; rw [s1]; omega)).trans ?_
    rw [hA, World.cell?_alloc_at _ _ _ _ rfl]; rfl
  · refine (b3.cell (p := ⟨w.heap.size + 1, 0, none⟩) (by show w.heap.size + 1 < _; rw [s2]; omega)).trans ?_
    rw [← s1, hD, World.cell?_alloc_at _ _ _ _ rfl]; rfl
set_option maxRecDepth 100000 in
set_option maxHeartbeats 3200000 in
theorem ofC (wd : Int) (kg : Nat) (kb kc : Array Value) (lv hv : Value) (va : Option Addr) (vn vc : Nat) (up : Bool) (w : World) :
    Calls Tryz.prog 55 #[.agg #[.int .i64 wd, .func (.func kg) kb kc, .bool up, lv, hv], .slice va vn vc] w fun e w' => e = .returned (.agg #[.int .i64 wd, .func (.func kg) kb kc, .bool up, .func (.func 90) #[] #[.pointer (some ⟨w.heap.size + 1, 0, none⟩)], .func (.func 91) #[] #[.pointer (some ⟨w.heap.size, 0, none⟩), .pointer (some ⟨w.heap.size + 1, 0, none⟩)]]) ∧ w'.cell? ⟨w.heap.size, 0, none⟩ = some (.int .i64 wd) ∧ w'.cell? ⟨w.heap.size + 1, 0, none⟩ = some (.slice va vn vc) ∧ Below w.heap.size w w' := by
  go_enter Tryz.func55, Tryz.ntmps55
  go_wp2
  obtain ⟨G0, G1, G2, G3, G4, G5, G6, G7⟩ := box515 w (.int .i64 wd) (.func (.func kg) kb kc) (.bool up) (.func (.func 90) #[] #[.pointer (some ⟨w.heap.size + 1, 0, none⟩)]) (.func (.func 91) #[] #[.pointer (some ⟨w.heap.size, 0, none⟩), .pointer (some ⟨w.heap.size + 1, 0, none⟩)]) (.slice va vn vc) (.int .i64 wd) (.func (.func kg) kb kc) (.bool up) (.func (.func 90) #[] #[.pointer (some ⟨w.heap.size + 1, 0, none⟩)]) (.func (.func 91) #[] #[.pointer (some ⟨w.heap.size, 0, none⟩), .pointer (some ⟨w.heap.size + 1, 0, none⟩)]) 48 22 48 _ rfl
  refine bodyPost_ret (by simp [results, Tryz.results55, go_sem, G3, G4, G5, G6, G7]; try rfl) rfl ?_
  exact ⟨rfl, G1, G2, G0⟩
theorem of1 (lb i n cap : Nat) (a : Option Addr) (xs : List ByteArray) (w : World) (h : w.cell? ⟨lb, 0, none⟩ = some (.slice a n cap)) (hR : ReadsT w (.slice a n cap) xs) (hi : i < xs.length) :
    Calls Tryz.prog 90 #[.int .i64 i, .pointer (some ⟨lb, 0, none⟩)] w fun e w' => e = .returned (.string (xs.getD i ByteArray.empty)) ∧ w' = w := by
  obtain ⟨a', cap', e, hc, hh⟩ := hR
  injection e with e1 e2 e3
  subst e1 e2
  obtain ⟨b, off, ha, hq⟩ := hh.resolve_left (by omega)
  subst ha
  have c := hq i hi
  have hi2 : (i : Int) < (xs.length : Nat) := by omega
  obtain ⟨x, HX⟩ : ∃ x, Hid (xs.getD i ByteArray.empty = x) := ⟨_, rfl⟩
  rw [HX.out] at c ⊢
  obtain ⟨n, HN⟩ : ∃ n, Hid (xs.length = n) := ⟨_, rfl⟩
  rw [HN.out] at h hi2
  clear hh hq hi hc e3
  go_enter Tryz.func90, Tryz.ntmps90
  go_wp2
  go_ret
  exact ⟨rfl, rfl⟩
set_option maxRecDepth 100000 in
set_option maxHeartbeats 3200000 in
theorem of2 (fb lb a b n cap : Nat) (wd : Int) (hwd : i64 wd) (ad : Option Addr) (xs : List ByteArray) (w : World) (hf : w.cell? ⟨fb, 0, none⟩ = some (.int .i64 wd)) (h : w.cell? ⟨lb, 0, none⟩ = some (.slice ad n cap)) (hR : ReadsT w (.slice ad n cap) xs) (hx : Fits xs) (hT : Tab w) (hab : a < b) (hb : b ≤ xs.length) :
    Calls Tryz.prog 91 #[.agg #[.int .i64 a, .int .i64 b], .pointer (some ⟨fb, 0, none⟩), .pointer (some ⟨lb, 0, none⟩)] w fun e w' => e = .returned (.string (RR wd xs a b)) ∧ Below w.heap.size w w' := by
  have HRD : Hid (ReadsT w (.slice ad n cap) xs) := hR
  obtain ⟨a', cap', e, hc, hh⟩ := hR
  injection e with e1 e2 e3
  subst e1 e2 e3
  obtain ⟨bb, off, rfl, hh⟩ := hh.resolve_left (by omega)
  have HM : Hid (ReadsT w (.slice (some ⟨bb, off + a, none⟩) (b - a) (cap - a)) (slc xs a b)) := HRD.out.mid (f := a) (k := b - a) (by omega)
  have HX : Hid (Fits (slc xs a b)) := (hx.drop a).take (b - a)
  have RC : Hid (∀ w', Tab w' → ReadsT w' (.slice (some ⟨bb, off + a, none⟩) (b - a) (cap - a)) (slc xs a b) → Calls _ _ _ _ _) := fun w' h1 h2 => mb.rootC wd _ (slc xs a b) w' hwd h1 h2 HX.out
  have HE : Hid (RT wd (slc xs a b) = RR wd xs a b) := rfl
  rw [HE.out] at RC
  obtain ⟨y, HY⟩ : ∃ y, Hid (RR wd xs a b = y) := ⟨_, rfl⟩
  rw [HY.out] at RC ⊢
  obtain ⟨n, HN⟩ : ∃ n, Hid (xs.length = n) := ⟨_, rfl⟩
  rw [HN.out] at h hb hc
  obtain ⟨W, HW⟩ : ∃ W, Hid (W = w.alloc (.cells #[.int .i64 a, .int .i64 b] 43)) := ⟨_, rfl⟩
  have BW : Hid (Below w.heap.size w W) := by rw [HW.out]; exact (Below.refl _ _).alloc (Nat.le_refl _) _
  have s0 : W.cell? ⟨w.heap.size, 0, none⟩ = some (.int .i64 a) := by rw [HW.out, World.cell?_alloc_at _ _ _ _ rfl]; rfl
  have s1 : W.cell? ⟨w.heap.size, 1, none⟩ = some (.int .i64 b) := by rw [HW.out, World.cell?_alloc_at _ _ _ _ rfl]; rfl
  have hf' := (BW.out.cell (World.block_lt_of_cell? _ _ hf)).trans hf
  have h' := (BW.out.cell (World.block_lt_of_cell? _ _ h)).trans h
  have S4 : Hid (∀ w', Below W.heap.size W w' → Below W.heap.size W w' ∧ w'.cell? ⟨w.heap.size, 0, none⟩ = some (.int .i64 a) ∧ w'.cell? ⟨w.heap.size, 1, none⟩ = some (.int .i64 b) ∧ w'.cell? ⟨fb, 0, none⟩ = some (.int .i64 wd) ∧ w'.cell? ⟨lb, 0, none⟩ = some (.slice (some ⟨bb, off, none⟩) n cap)) := fun w' q => ⟨q, (q.cell (World.block_lt_of_cell? _ _ s0)).trans s0, (q.cell (World.block_lt_of_cell? _ _ s1)).trans s1, (q.cell (World.block_lt_of_cell? _ _ hf')).trans hf', (q.cell (World.block_lt_of_cell? _ _ h')).trans h'⟩
  have HT : Hid (Tab W) := hT.down BW.out
  have g1 : (a : Int) ≤ b := by omega
  have g2 : (b : Int) ≤ cap := by omega
  have g3 : (a : Int) ≤ cap := by omega
  have hca : ¬ cap = a := by omega
  have ent : ((b - a : Nat) : Int) = (b : Int) - a := by omega
  have ent2 : ((cap - a : Nat) : Int) = (cap : Int) - a := by omega
  clear hh hf h hT hx
  go_enter Tryz.func91, Tryz.ntmps91
  go_wp2_with fail
  rw [← HW.out]
  go_region_held3 (fun w' => Below W.heap.size W w' ∧ w'.cell? ⟨w.heap.size, 0, none⟩ = some (.int .i64 a) ∧ w'.cell? ⟨w.heap.size, 1, none⟩ = some (.int .i64 b) ∧ w'.cell? ⟨fb, 0, none⟩ = some (.int .i64 wd) ∧ w'.cell? ⟨lb, 0, none⟩ = some (.slice (some ⟨bb, off, none⟩) n cap)) (first | exact S4.out _ (below_dr (Below.refl _ _)) | exact S4.out _ (over (below_dr (Below.refl _ _)) hb')) ((go_at_call 17; with_reducible refine (RC.out _ (HT.out.down (below_dr (Below.refl _ _))) (HM.out.later (over BW.out (below_dr (Below.refl _ _))))).mono ?_; rintro e w' ⟨rfl, hb'⟩))
  have HB : Hid (Below w.heap.size w w') := over BW.out (over (below_dr (Below.refl _ _)) hb')
  clear hb'
  go_wp2
  go_ret
  exact ⟨rfl, HB.out⟩
-- the list's own filling
structure OwS (KS : World → Prop) (fb lb : Nat) (wd : Int) (ad : Option Addr) (n cap : Nat) (xs : List ByteArray) (u : Unit) (w : World) : Prop where
  ks : KS w
  f : w.cell? ⟨fb, 0, none⟩ = some (.int .i64 wd)
  l : w.cell? ⟨lb, 0, none⟩ = some (.slice ad n cap)
  r : ReadsT w (.slice ad n cap) xs
  t : Tab w
theorem ownFl {KS : World → Prop} {fb lb : Nat} {wd : Int} {ad : Option Addr} {n cap : Nat} {xs : List ByteArray} {lk : Nat → Nat → Nat} {up : Bool} {kg : Nat} {kb kc : Array Value} (hwd : i64 wd) (hx : Fits xs) (later : ∀ {w w'}, KS w → Below w.heap.size w w' → KS w')
    (kent : ∀ args w, (callFunc kg args).run Tryz.prog w = .ok (.enter kg args) w)
    (kn : ∀ (a b : Nat) w, a < b → b ≤ xs.length → KS w → Calls Tryz.prog kg (kb.push (.agg #[.int .i64 a, .int .i64 b]) ++ kc) w fun e w' => e = .returned (.bool (decide (lk a b ≠ 1))) ∧ Below w.heap.size w w')
    (hd : ∀ {a b}, a < b → b ≤ xs.length → lk a b ≠ 1 → 2 ≤ b - a → (lk a b = 2 ↔ ¬ (up = true ∧ lk (a + half (b - a)) b ≠ 1))) :
    Fl no (OwS KS fb lb wd ad n cap xs) wd lk up (fun p => xs.getD p ByteArray.empty) (ow (RR wd xs)) (fun _ a b => a < b ∧ b ≤ xs.length) kg 91 (.func (.func 90) #[] #[.pointer (some ⟨lb, 0, none⟩)]) kb kc #[] #[.pointer (some ⟨fb, 0, none⟩), .pointer (some ⟨lb, 0, none⟩)] where
  kent := kent
  hent := fun args w => by simp [go_sem]
  later := fun h hb => ⟨later h.ks hb, (hb.cell (World.block_lt_of_cell? _ _ h.f)).trans h.f, (hb.cell (World.block_lt_of_cell? _ _ h.l)).trans h.l, h.r.later hb, h.t.down hb⟩
  fl := fun _ b e => e.elim
  tab := fun h => h.t
  bnd := fun h => by have := hx.many; omega
  knows := fun x a b a' b' w hP h1 h2 h3 hS => kn a b w h2 (by omega) hS.ks
  leaf := fun x a b h1 hP _ => ⟨_, _, _, rfl, fun args w => by simp [go_sem], fun w hS => (of1 lb a n cap ad xs w hS.l hS.r (by omega)).mono fun e w' h => ⟨h.1, by rw [h.2]; exact Below.refl _ _⟩⟩
  lsz := fun {x a b} h1 hP _ => by
    have h : a < xs.length := by omega
    rw [List.getD_eq_getElem?_getD, List.getElem?_eq_getElem h]
    exact hx.each _ (List.getElem_mem h)
  hash := fun x a b w hab hP _ hS => (of2 fb lb a b n cap wd hwd ad xs w hS.f hS.l hS.r hx hS.t hab hP.2).mono fun e w' h => ⟨h.1, ⟨later hS.ks h.2, (h.2.cell (World.block_lt_of_cell? _ _ hS.f)).trans hS.f, (h.2.cell (World.block_lt_of_cell? _ _ hS.l)).trans hS.l, hS.r.later h.2, hS.t.down h.2⟩, Kp.of_below h.2⟩
  hsz := fun _ _ => RT_le _ _
  dir := fun hab hP h1 h2 => hd hab hP.2 h1 h2
  left := fun {x a b} hab hP h1 h2 => by have := half_lt h2; exact ⟨⟨by omega, by omega⟩, ⟨by omega, hP.2⟩⟩
  right := fun {x a b} hab hP h1 h3 h2 => by have := half_lt h2; exact ⟨⟨by omega, hP.2⟩, ⟨by omega, by omega⟩⟩
end Go.Proofs.YthppkdjekfginaaGreatDoor.uo

namespace Go.Proofs.YthppkdjekfginaaGreatDoor.uq
open Go.RowKit Go.PlainAid
open Go.Proofs.YthppkdjekfginaaGreatDoor.pl Go.Proofs.YthppkdjekfginaaGreatDoor.pi Go.Proofs.YthppkdjekfginaaGreatDoor.pj Go.Proofs.YthppkdjekfginaaGreatDoor.ca Go.Proofs.YthppkdjekfginaaGreatDoor.cb Go.Proofs.YthppkdjekfginaaGreatDoor.cp Go.Proofs.YthppkdjekfginaaGreatDoor.ga Go.Proofs.YthppkdjekfginaaGreatDoor.gb Go.Proofs.YthppkdjekfginaaGreatDoor.aa Go.Proofs.YthppkdjekfginaaGreatDoor.ba Go.Proofs.YthppkdjekfginaaGreatDoor.bb Go.Proofs.YthppkdjekfginaaGreatDoor.ka Go.Proofs.YthppkdjekfginaaGreatDoor.kb Go.Proofs.YthppkdjekfginaaGreatDoor.kc Go.Proofs.YthppkdjekfginaaGreatDoor.kp Go.Proofs.YthppkdjekfginaaGreatDoor.lk Go.Proofs.YthppkdjekfginaaGreatDoor.qa Go.Proofs.YthppkdjekfginaaGreatDoor.qb Go.Proofs.YthppkdjekfginaaGreatDoor.ta Go.Proofs.YthppkdjekfginaaGreatDoor.tb Go.Proofs.YthppkdjekfginaaGreatDoor.td Go.Proofs.YthppkdjekfginaaGreatDoor.tc Go.Proofs.YthppkdjekfginaaGreatDoor.ua Go.Proofs.YthppkdjekfginaaGreatDoor.ub Go.Proofs.YthppkdjekfginaaGreatDoor.ma Go.Proofs.YthppkdjekfginaaGreatDoor.uh Go.Proofs.YthppkdjekfginaaGreatDoor.ui Go.Proofs.YthppkdjekfginaaGreatDoor.uj Go.Proofs.YthppkdjekfginaaGreatDoor.uk Go.Proofs.YthppkdjekfginaaGreatDoor.ul Go.Proofs.YthppkdjekfginaaGreatDoor.um Go.Proofs.YthppkdjekfginaaGreatDoor.un Go.Proofs.YthppkdjekfginaaGreatDoor.uo
set_option linter.unusedVariables false

theorem Old.reads {base : Nat} {w : World} {v : Value} {l : List ByteArray} (h : Old base w v l) : ReadsT w v l := by
  obtain ⟨a, cap, rfl, hc, h0 | ⟨g, off, rfl, _, hh⟩⟩ := h
  · exact ⟨a, cap, rfl, hc, .inl h0⟩
  · exact ⟨_, cap, rfl, hc, .inr ⟨g, off, rfl, hh⟩⟩
theorem box532 (w : World) (v0 v1 v2 v3 v4 y0 y1 y2 : Value) (a b : Nat) (t t' t'' : TypeId) : ∀ W, W = ((w.alloc (.cells #[v0, v1, v2, v3, v4] t)).alloc (.cells #[y0, y1, y2] t')).alloc (.cells #[.int .i64 a, .int .i64 b] t'') → Below w.heap.size w W ∧ (W.cell? ⟨w.heap.size, 0, none⟩ = some v0 ∧ W.cell? ⟨w.heap.size, 1, none⟩ = some v1 ∧ W.cell? ⟨w.heap.size, 2, none⟩ = some v2 ∧ W.cell? ⟨w.heap.size, 3, none⟩ = some v3 ∧ W.cell? ⟨w.heap.size, 4, none⟩ = some v4) ∧ W.heap[w.heap.size + 1]? = some (.cells #[y0, y1, y2] t' (0, 0)) ∧ SC W (w.heap.size + 1 + 1) a b := by
  intro W hW
  obtain ⟨A, hA⟩ : ∃ A, A = w.alloc (.cells #[v0, v1, v2, v3, v4] t) := ⟨_, rfl⟩
  obtain ⟨D, hD⟩ : ∃ D, D = A.alloc (.cells #[y0, y1, y2] t') := ⟨_, rfl⟩
  rw [← hA, ← hD] at hW
  have s1 : A.heap.size = w.heap.size + 1 := by rw [hA]; simp
  have s2 : D.heap.size = w.heap.size + 1 + 1 := by rw [hD]; simp [s1]
  have b1 : Below w.heap.size w A := by rw [hA]; exact (Below.refl _ _).alloc (Nat.le_refl _) _
  have b2 : Below A.heap.size A D := by rw [hD]; exact (Below.refl _ _).alloc (Nat.le_refl _) _
  have b3 : Below D.heap.size D W := by rw [hW]; exact (Below.refl _ _).alloc (Nat.le_refl _) _
  have c : ∀ (k : Nat) v, #[v0, v1, v2, v3, v4][k]? = some v → W.cell? ⟨w.heap.size, k, none⟩ = some v := fun k v hk => by
    refine ((over b2 b3).cell (p := ⟨w.heap.size, k, none⟩) (by show w.heap.size < _; rw [s1]; omega)).trans ?_
    rw [hA, World.cell?_alloc_at _ _ _ _ rfl]; exact hk
  have n1 : D.heap[w.heap.size + 1]? = some (.cells #[y0, y1, y2] t' (0, 0)) := by rw [← s1, hD]; exact heap_alloc_new A _
  refine ⟨over b1 (over b2 b3), ⟨c 0 _ rfl, c 1 _ rfl, c 2 _ rfl, c 3 _ rfl, c 4 _ rfl⟩, (b3.block _ (by rw [s2]; omega)).trans n1, ⟨?_, ?_⟩⟩
  · rw [← s2, hW, World.cell?_alloc_at _ _ _ _ rfl]; rfl
  · rw [← s2, hW, World.cell?_alloc_at _ _ _ _ rfl]; rfl
section
variable {X : Type} {F : Nat → Prop} {St : X → World → Prop} {wd : Int} {lk : Nat → Nat → Nat} {up : Bool} {lf : Nat → ByteArray} {hs : X → Nat → Nat → ByteArray × X} {P : X → Nat → Nat → Prop} {kg hg : Nat} {lv : Value} {kb kc hb hc : Array Value}
theorem Fl.sml (K : Fl F St wd lk up lf hs P kg hg lv kb kc hb hc) (n : Nat) : ∀ (a b : Nat) (x : X), b - a = n → a < b → P x a b → Sml (gw (HH wd) lk lf hs x a b).1 := by
  induction n using Nat.strongRecOn with
  | ind n ih =>
    intro a b x hn hab h
    by_cases h1 : lk a b = 1
    · rw [gw_bare h1]; trivial
    by_cases h2 : 2 ≤ b - a
    · have hh := half_lt h2
      by_cases h3 : lk a b = 2
      · obtain ⟨p1, p2⟩ := K.left hab h h3 h2
        rw [gw_left h3 h2]
        exact ⟨K.sum p1, K.sum p2, ih (half (b - a)) (by omega) _ _ _ (by omega) (by omega) p1, ih (b - (a + half (b - a))) (by omega) _ _ _ rfl (by omega) p2⟩
      · obtain ⟨p1, p2⟩ := K.right hab h h1 h3 h2
        rw [gw_right h1 h3 h2]
        exact ⟨K.sum p2, K.sum p1, ih (half (b - a)) (by omega) _ _ _ (by omega) (by omega) p2, ih (b - (a + half (b - a))) (by omega) _ _ _ rfl (by omega) p1⟩
    · rw [gw_leaf h1 h2]
      exact K.lsz (by omega) h h1
set_option maxRecDepth 100000 in
set_option maxHeartbeats 6400000 in
theorem againstC (K : Fl F St wd lk up lf hs P kg hg lv kb kc hb hc) (hwd : i64 wd) {KS : World → Prop} (ks : ∀ {x w}, St x w → KS w) (later : ∀ {w w'}, KS w → Below w.heap.size w w' → KS w') (base : Nat) (hF : ∀ b, F b → base ≤ b)
    (ad : Option Addr) (cap : Nat) (xs : List ByteArray) (h1 : 1 ≤ xs.length) (hx : Fits xs)
    (kn : ∀ (a b : Nat) w, a < b → b ≤ xs.length → KS w → Calls Tryz.prog kg (kb.push (.agg #[.int .i64 a, .int .i64 b]) ++ kc) w fun e w' => e = .returned (.bool (decide (lk a b ≠ 1))) ∧ Below w.heap.size w w')
    (hd : ∀ {a b}, a < b → b ≤ xs.length → lk a b ≠ 1 → 2 ≤ b - a → (lk a b = 2 ↔ ¬ (up = true ∧ lk (a + half (b - a)) b ≠ 1)))
    (x : X) (w : World) (hP : P x 0 xs.length) (hS : St x w) (hO : Old base w (.slice ad xs.length cap) xs) :
    Calls Tryz.prog 21 #[.agg #[.int .i64 wd, .func (.func kg) kb kc, .bool up, lv, .func (.func hg) hb hc], .slice ad xs.length cap] w fun e w' => e = .returned (clV (fst1 (gw (HH wd) lk lf hs x 0 xs.length).1 (ownT wd lk xs))) ∧ Kp F w w' := by
  have KK : Hid (Fl F St wd lk up lf hs P kg hg lv kb kc hb hc) := K
  have KW : Hid (∀ fb lb, Fl no (OwS KS fb lb wd ad xs.length cap xs) wd lk up _ _ _ _ _ _ _ _ _ _) := fun fb lb => ownFl (KS := KS) (fb := fb) (lb := lb) (ad := ad) (n := xs.length) (cap := cap) hwd hx later K.kent kn hd
  obtain ⟨n, HN⟩ : ∃ n, Hid (xs.length = n) := ⟨_, rfl⟩
  obtain ⟨T, HT⟩ : ∃ T, Hid (gw (HH wd) lk lf hs x 0 xs.length = T) := ⟨_, rfl⟩
  obtain ⟨U, HU⟩ : ∃ U, Hid (ownT wd lk xs = U) := ⟨_, rfl⟩
  have GC : Hid (∀ w', St x w' → Calls _ _ _ _ _) := fun w' h => growC K xs.length 0 xs.length x w' rfl (by omega) hP h
  have GO : Hid (∀ fb lb w', OwS KS fb lb wd ad xs.length cap xs () w' → Calls _ _ _ _ _) := fun fb lb w' h => growC (KW.out fb lb) xs.length 0 xs.length () w' rfl (by omega) ⟨by omega, Nat.le_refl _⟩ h
  have HEU : Hid ((gw (HH wd) lk (fun p => xs.getD p ByteArray.empty) (ow (RR wd xs)) () 0 xs.length).1 = ownT wd lk xs) := rfl
  rw [HEU.out, show ((0 : Nat) : Int) = 0 from rfl] at GO
  rw [show ((0 : Nat) : Int) = 0 from rfl] at GC
  have FC' : Hid (∀ B B' vt vu w', IsP B w' vt T.1 → IsP B' w' vu U → Calls _ _ _ _ _) := fun B B' vt vu w' h1 h2 => firstC B B' T.1 U vt vu w' (by rw [← HT.out, ← HU.out]; exact gw_alike _ _ _ _ _ _ _ 0 xs.length x () rfl) (by rw [← HT.out]; exact Fl.sml K _ 0 xs.length x rfl (by omega) hP) (by rw [← HU.out]; exact Fl.sml (KW.out 0 0) _ 0 xs.length () rfl (by omega) ⟨by omega, Nat.le_refl _⟩) h1 h2
  have OC : Hid (∀ w', Calls _ _ _ _ _) := fun w' => ofC wd kg kb kc lv (.func (.func hg) hb hc) ad xs.length cap up w'
  rw [HU.out] at GO
  rw [HT.out] at GC
  rw [HT.out, HU.out]
  obtain ⟨W, HW⟩ : ∃ W, Hid (W = ((w.alloc (.cells #[.int .i64 wd, .func (.func kg) kb kc, .bool up, lv, .func (.func hg) hb hc] 48)).alloc (.cells #[.string ⟨#[]⟩, .string ⟨#[]⟩, .bool false] 26)).alloc (.cells #[.int .i64 0, .int .i64 xs.length] 43)) := ⟨_, rfl⟩
  obtain ⟨bw, ⟨c0, c1, c2, c3, c4⟩, hr, hsc⟩ := box532 w (.int .i64 wd) (.func (.func kg) kb kc) (.bool up) lv (.func (.func hg) hb hc) (.string ⟨#[]⟩) (.string ⟨#[]⟩) (.bool false) 0 xs.length 48 26 43 W HW.out
  have BW : Hid (Below w.heap.size w W) := bw
  have SW : Hid (St x W ∧ Old base W (.slice ad xs.length cap) xs ∧ Tab W) := ⟨K.later hS bw, hO.keep (Kp.of_below (A := no) bw) (fun _ e => e.elim), (K.tab hS).down bw⟩
  have HF : Hid (∀ b, F b → b < w.heap.size) := K.fl hS
  have HG : Hid (W.heap[w.heap.size + 1]? = some (.cells #[.string ⟨#[]⟩, .string ⟨#[]⟩, .bool false] 26 (0, 0))) := hr
  have SX : Hid (∀ w', Kp (fun b => F b ∨ b = w.heap.size + 1) W w' → Kp (fun b => F b ∨ b = w.heap.size + 1) W w' ∧ w'.cell? ⟨w.heap.size, 0, none⟩ = some (.int .i64 wd) ∧ w'.cell? ⟨w.heap.size, 1, none⟩ = some (.func (.func kg) kb kc) ∧ w'.cell? ⟨w.heap.size, 2, none⟩ = some (.bool up) ∧ w'.cell? ⟨w.heap.size, 3, none⟩ = some lv ∧ w'.cell? ⟨w.heap.size, 4, none⟩ = some (.func (.func hg) hb hc) ∧ w'.cell? ⟨w.heap.size + 1 + 1, 0, none⟩ = some (.int .i64 0) ∧ w'.cell? ⟨w.heap.size + 1 + 1, 1, none⟩ = some (.int .i64 (xs.length : Nat))) := fun w' k => by
    have n0 : ¬ (F w.heap.size ∨ w.heap.size = w.heap.size + 1) := fun e => by
      rcases e with e | e
      · have := HF.out _ e; omega
      · omega
    have n2 : ¬ (F (w.heap.size + 1 + 1) ∨ w.heap.size + 1 + 1 = w.heap.size + 1) := fun e => by
      rcases e with e | e
      · have := HF.out _ e; omega
      · omega
    exact ⟨k, k.cell c0 n0, k.cell c1 n0, k.cell c2 n0, k.cell c3 n0, k.cell c4 n0, k.cell hsc.1 n2, k.cell hsc.2 n2⟩
  -- behind each call
  have H1 : Hid (∀ w1 v1, IsP W.drew.heap.size w1 v1 T.1 → St T.2 w1 → Kp F W.drew w1 → IsP w.heap.size w1 v1 T.1 ∧ KS w1 ∧ Old base w1 (.slice ad xs.length cap) xs ∧ Tab w1 ∧ Kp F W w1) := fun w1 v1 a1 a2 a3 => by
    have k : Kp F W w1 := (Kp.of_below (below_dr (Below.refl _ _))).trans a3
    exact ⟨a1.mono BW.out.size, ks a2, SW.out.2.1.keep k hF, KK.out.tab a2, k⟩
  have H2 : Hid (∀ w1 w2 v1, (IsP w.heap.size w1 v1 T.1 ∧ KS w1 ∧ Old base w1 (.slice ad xs.length cap) xs ∧ Tab w1 ∧ Kp F W w1) → w2.cell? ⟨w1.heap.size, 0, none⟩ = some (.int .i64 wd) → w2.cell? ⟨w1.heap.size + 1, 0, none⟩ = some (.slice ad xs.length cap) → Below w1.heap.size w1 w2 → IsP w.heap.size w2 v1 T.1 ∧ OwS KS w1.heap.size (w1.heap.size + 1) wd ad xs.length cap xs () w2 ∧ Kp F W w2) := fun w1 w2 v1 g a1 a2 a3 => ⟨g.1.later a3, ⟨later g.2.1 a3, a1, a2, (Old.reads g.2.2.1).later a3, g.2.2.2.1.down a3⟩, g.2.2.2.2.trans (Kp.of_below a3)⟩
  have H3 : Hid (∀ w2 w3 v1 v3, (IsP w.heap.size w2 v1 T.1 ∧ Kp F W w2) → IsP w2.heap.size w3 v3 U → Kp no w2 w3 → IsP w.heap.size w3 v1 T.1 ∧ IsP w2.heap.size w3 v3 U ∧ Kp F W w3) := fun w2 w3 v1 v3 g a1 a2 => ⟨g.1.keep a2 (fun _ e => e.elim), a1, g.2.trans (a2.mono fun _ e => e.elim)⟩
  have KG : Hid (∀ w', Kp F W w' → Kp (fun b => F b ∨ b = w.heap.size + 1) W w') := fun w' k => k.mono fun b e => .inl e
  rw [HN.out] at GC GO SX H1 H2 SW HW OC hd ⊢
  have hw : ((w.alloc (.cells #[.int .i64 wd, .func (.func kg) kb kc, .bool up, lv, .func (.func hg) hb hc] 48)).alloc (.cells #[.string ⟨#[]⟩, .string ⟨#[]⟩, .bool false] 26)).alloc (.cells #[.int .i64 0, .int .i64 n] 43) = W := HW.out.symm
  obtain ⟨g0, g1, g2, hgo⟩ := clV_of (fst1 T.1 U)
  rw [hgo] at FC' ⊢
  clear hgo bw c0 c1 c2 c3 c4 hr hsc hS hO K hP h1 hx kn hd ks later hF hwd HEU HT HU
  go_enter Tryz.func21, Tryz.ntmps21
  go_wp2_with fail
  try rw [hw]
  clear hw
  have K0 : Hid (Kp (fun b => F b ∨ b = w.heap.size + 1) W W.drew) := Kp.of_below (below_dr (Below.refl _ _))
  have S0 : Hid (St x W.drew) := KK.out.later SW.out.1 (below_dr (Below.refl _ _))
  have F4 : Hid (∀ w4, Kp F W w4 → w4.heap[w.heap.size + 1]? = some (.cells #[.string ⟨#[]⟩, .string ⟨#[]⟩, .bool false] 26 (0, 0))) := fun w4 k => (k.block _ (Array.getElem?_eq_some_iff.1 HG.out).1 (fun e => by have := HF.out _ e; omega)).trans HG.out
  have K5 : Hid (∀ w4 a b c, Kp F W w4 → Kp (fun b => F b ∨ b = w.heap.size + 1) W (((w4.setCell ⟨w.heap.size + 1, 0, none⟩ a).setCell ⟨w.heap.size + 1, 1, none⟩ b).setCell ⟨w.heap.size + 1, 2, none⟩ c)) := fun w4 a b c k => (KG.out _ k).trans (((Kp.setCell (A := fun b => F b ∨ b = w.heap.size + 1) _ _ _ _ (.inr rfl)).trans (Kp.setCell (A := fun b => F b ∨ b = w.heap.size + 1) _ _ _ _ (.inr rfl))).trans (Kp.setCell (A := fun b => F b ∨ b = w.heap.size + 1) _ _ _ _ (.inr rfl)))
  go_region_held3 (fun w' => Kp (fun b => F b ∨ b = w.heap.size + 1) W w' ∧ w'.cell? ⟨w.heap.size, 0, none⟩ = some (.int .i64 wd) ∧ w'.cell? ⟨w.heap.size, 1, none⟩ = some (.func (.func kg) kb kc) ∧ w'.cell? ⟨w.heap.size, 2, none⟩ = some (.bool up) ∧ w'.cell? ⟨w.heap.size, 3, none⟩ = some lv ∧ w'.cell? ⟨w.heap.size, 4, none⟩ = some (.func (.func hg) hb hc) ∧ w'.cell? ⟨w.heap.size + 1 + 1, 0, none⟩ = some (.int .i64 0) ∧ w'.cell? ⟨w.heap.size + 1 + 1, 1, none⟩ = some (.int .i64 (n : Nat))) (first | exact SX.out _ K0.out | exact SX.out _ (KG.out _ G1.out.2.2.2.2) | exact SX.out _ (KG.out _ G2.out.2.2) | exact SX.out _ (KG.out _ G3.out.2.2) | exact SX.out _ (KG.out _ G4.out) | exact SX.out _ (K5.out _ _ _ _ G4.out)) (first
    | (go_at_call_of 54 lv; refine (GC.out _ S0.out).mono ?_; rintro e w1 ⟨v1, rfl, hi1, hs1, hk1⟩; have G1 : Hid (_ ∧ _ ∧ _ ∧ _ ∧ _) := H1.out w1 v1 hi1 hs1 hk1; clear hi1 hs1 hk1)
    | (go_at_call 55; refine (OC.out _).mono ?_; rintro e w2 ⟨rfl, d1, d2, hb2⟩; have G2 : Hid (_ ∧ _ ∧ _) := H2.out w1 w2 v1 G1.out d1 d2 hb2; clear d1 d2 hb2)
    | (go_at_call 54; refine (GO.out _ _ _ G2.out.2.1).mono ?_; rintro e w3 ⟨v3, rfl, hi3, hs3, hk3⟩; have G3 : Hid (_ ∧ _ ∧ _) := H3.out w2 w3 v1 v3 ⟨G2.out.1, G2.out.2.2⟩ hi3 hk3; clear hi3 hs3 hk3)
    | (go_at_call 53; refine (FC'.out _ _ _ _ _ G3.out.1 G3.out.2.1).mono ?_; rintro e w4 ⟨rfl, hb4⟩; have G4 : Hid (Kp F W w4) := G3.out.2.2.trans (Kp.of_below hb4); have hr2 := F4.out w4 G4.out; have e0 : w4.cell? ⟨w.heap.size + 1, 0, none⟩ = _ := cell_of_row _ _ 0 _ _ _ hr2; have e1 : w4.cell? ⟨w.heap.size + 1, 1, none⟩ = _ := cell_of_row _ _ 1 _ _ _ hr2; have e2 : w4.cell? ⟨w.heap.size + 1, 2, none⟩ = _ := cell_of_row _ _ 2 _ _ _ hr2; have f0 := frozen_of_row _ _ 0 _ _ hr2; have f1 := frozen_of_row _ _ 1 _ _ hr2; have f2 := frozen_of_row _ _ 2 _ _ hr2; clear hb4 hr2))
  have FIN : Hid (∀ W', W' = _ → _) := put3 w4 (w.heap.size + 1) _ _ _ (.string g0) (.string g1) (.bool g2) _ (F4.out w4 G4.out)
  have KF : Hid (Kp F w w4) := (Kp.of_below BW.out).trans G4.out
  clear e0 e1 e2 f0 f1 f2
  go_wp2
  obtain ⟨G, hb⟩ := FIN.out _ rfl
  refine bodyPost_ret (by simp [results, Tryz.results21, go_sem, G.1, G.2.1, G.2.2]; try rfl) rfl ?_
  refine ⟨rfl, ?_⟩
  have b := hb w.heap.size (by omega)
  exact ⟨b.os.trans KF.out.os, b.tape.trans KF.out.tape, b.output.trans KF.out.output, Nat.le_trans KF.out.size b.size, fun k hk hn => (b.block k hk).trans (KF.out.block k hk hn)⟩
end
end Go.Proofs.YthppkdjekfginaaGreatDoor.uq

namespace Go.Proofs.YthppkdjekfginaaGreatDoor.ur
open Go.RowKit Go.PlainAid
open Go.Proofs.YthppkdjekfginaaGreatDoor.pl Go.Proofs.YthppkdjekfginaaGreatDoor.pi Go.Proofs.YthppkdjekfginaaGreatDoor.pj Go.Proofs.YthppkdjekfginaaGreatDoor.ca Go.Proofs.YthppkdjekfginaaGreatDoor.cb Go.Proofs.YthppkdjekfginaaGreatDoor.cp Go.Proofs.YthppkdjekfginaaGreatDoor.ga Go.Proofs.YthppkdjekfginaaGreatDoor.gb Go.Proofs.YthppkdjekfginaaGreatDoor.aa Go.Proofs.YthppkdjekfginaaGreatDoor.ba Go.Proofs.YthppkdjekfginaaGreatDoor.bb Go.Proofs.YthppkdjekfginaaGreatDoor.ka Go.Proofs.YthppkdjekfginaaGreatDoor.kb Go.Proofs.YthppkdjekfginaaGreatDoor.kc Go.Proofs.YthppkdjekfginaaGreatDoor.kp Go.Proofs.YthppkdjekfginaaGreatDoor.lk Go.Proofs.YthppkdjekfginaaGreatDoor.dc Go.Proofs.YthppkdjekfginaaGreatDoor.qa Go.Proofs.YthppkdjekfginaaGreatDoor.qb Go.Proofs.YthppkdjekfginaaGreatDoor.qc Go.Proofs.YthppkdjekfginaaGreatDoor.qd Go.Proofs.YthppkdjekfginaaGreatDoor.ta Go.Proofs.YthppkdjekfginaaGreatDoor.tb Go.Proofs.YthppkdjekfginaaGreatDoor.td Go.Proofs.YthppkdjekfginaaGreatDoor.tc Go.Proofs.YthppkdjekfginaaGreatDoor.ua Go.Proofs.YthppkdjekfginaaGreatDoor.ub Go.Proofs.YthppkdjekfginaaGreatDoor.ma Go.Proofs.YthppkdjekfginaaGreatDoor.uh Go.Proofs.YthppkdjekfginaaGreatDoor.ui Go.Proofs.YthppkdjekfginaaGreatDoor.uj Go.Proofs.YthppkdjekfginaaGreatDoor.uk Go.Proofs.YthppkdjekfginaaGreatDoor.ul Go.Proofs.YthppkdjekfginaaGreatDoor.um Go.Proofs.YthppkdjekfginaaGreatDoor.un Go.Proofs.YthppkdjekfginaaGreatDoor.uo Go.Proofs.YthppkdjekfginaaGreatDoor.uq
set_option linter.unusedVariables false

theorem lkI_ne (i a b : Nat) : lkI i a b ≠ 1 ↔ a ≤ i ∧ i < b := by
  unfold lkI
  by_cases h : a ≤ i ∧ i < b
  · rw [if_pos h]
    refine ⟨fun _ => h, fun _ => ?_⟩
    split
    · omega
    · split <;> omega
  · rw [if_neg h]
    exact ⟨fun e => absurd rfl e, fun e => absurd e h⟩
theorem dirI (i : Nat) {a b : Nat} (h1 : lkI i a b ≠ 1) (h2 : 2 ≤ b - a) : lkI i a b = 2 ↔ ¬ (true = true ∧ lkI i (a + half (b - a)) b ≠ 1) := by
  have h := (lkI_ne i a b).1 h1
  have e : lkI i a b = if i < a + half (b - a) then 2 else 3 := by unfold lkI; rw [if_pos h, if_neg (by omega)]
  rw [e, lkI_ne]
  by_cases g : i < a + half (b - a)
  · rw [if_pos g]
    exact ⟨fun _ q => by omega, fun _ => rfl⟩
  · rw [if_neg g]
    exact ⟨fun q => by omega, fun q => absurd ⟨rfl, by omega, h.2⟩ q⟩
-- the state of a claim with one leaf
structure LS (base pb lb : Nat) (leaf : ByteArray) (x : List ByteArray) (w : World) : Prop where
  p : KPile base pb x w
  l : w.cell? ⟨lb, 0, none⟩ = some (.string leaf)
  t : Tab w
theorem meetsI (i a b : Nat) (w : World) : Calls Tryz.prog 32 #[.agg #[.int .i64 i, .int .i64 ((i : Int) + 1)], .agg #[.int .i64 a, .int .i64 b]] w fun e w' => e = .returned (.bool (decide (lkI i a b ≠ 1))) ∧ Below w.heap.size w w' := by
  have := meetsC i (i + 1) a b w
  rw [show decide (i < b ∧ a < i + 1) = decide (lkI i a b ≠ 1) from by
    by_cases h : lkI i a b ≠ 1
    · rw [decide_eq_true h, decide_eq_true]; have := (lkI_ne i a b).1 h; omega
    · rw [decide_eq_false h, decide_eq_false]; intro g; exact h ((lkI_ne i a b).2 (by omega))] at this
  exact this
-- what is answered
def leafX (wd i : Int) (xs : List ByteArray) (leaf : ByteArray) (path : List ByteArray) : Option (ByteArray × ByteArray) :=
  if incA wd i xs.length (LF wd leaf) path (RT wd xs) = 0 then (if xs.getD i.toNat ByteArray.empty = leaf then none else fst1 (gw (HH wd) (lkI i.toNat) (fun _ => leaf) nx path 0 xs.length).1 (ownT wd (lkI i.toNat) xs)) else none
theorem incA_ok {wd i n : Int} {hash root : ByteArray} {path : List ByteArray} (h : incA wd i n hash path root = 0) : ∃ I N : Nat, i = I ∧ n = N ∧ I < N ∧ N ≤ 4611686018427387904 ∧ path.length = cI I N ∧ Wide wd path ∧ ldP wd I N hash path = root := by
  unfold incA at h
  by_cases q : incR wd i n path [hash, root] = 0
  · rw [if_pos q] at h
    obtain ⟨I, N, rfl, rfl, h1, h2, h3, h4, h5⟩ := incR_ok q
    rw [Int.toNat_natCast, Int.toNat_natCast] at h
    by_cases g : ldP wd I N hash path = root
    · exact ⟨I, N, rfl, rfl, h1, h2, h3, h4, g⟩
    · rw [if_neg g] at h; omega
  · rw [if_neg q] at h; exact absurd h q
end Go.Proofs.YthppkdjekfginaaGreatDoor.ur
