import Derived.Test.YtglffbhcnafbnaaDoorA8
import Derived.Laws.AppendOwnNone
import Derived.Test.YtglffbhcnafbnaaDoorA3
import Derived.Laws.EntriesVeiled
import Derived.Test.YtglffbhcnafbnaaDoorB1
import Derived.Test.YtglffbhcnafbnaaDoorA4
import Derived.Maps.AppendAt
namespace Go.Proofs.YtglffbhcnafbnaaDoor.sg
open Go.RowKit Go.PlainAid Go.Shelf
open Go.Proofs.YtglffbhcnafbnaaDoor.pl Go.Proofs.YtglffbhcnafbnaaDoor.pi Go.Proofs.YtglffbhcnafbnaaDoor.rf Go.Proofs.YtglffbhcnafbnaaDoor.pj Go.Proofs.YtglffbhcnafbnaaDoor.ca Go.Proofs.YtglffbhcnafbnaaDoor.cb Go.Proofs.YtglffbhcnafbnaaDoor.cp Go.Proofs.YtglffbhcnafbnaaDoor.cs Go.Proofs.YtglffbhcnafbnaaDoor.xc Go.Proofs.YtglffbhcnafbnaaDoor.ka Go.Proofs.YtglffbhcnafbnaaDoor.kb Go.Proofs.YtglffbhcnafbnaaDoor.ga Go.Proofs.YtglffbhcnafbnaaDoor.aa Go.Proofs.YtglffbhcnafbnaaDoor.ab Go.Proofs.YtglffbhcnafbnaaDoor.tb Go.Proofs.YtglffbhcnafbnaaDoor.ac Go.Proofs.YtglffbhcnafbnaaDoor.bc Go.Proofs.YtglffbhcnafbnaaDoor.sa Go.Proofs.YtglffbhcnafbnaaDoor.sb Go.Proofs.YtglffbhcnafbnaaDoor.sc Go.Proofs.YtglffbhcnafbnaaDoor.sd Go.Proofs.YtglffbhcnafbnaaDoor.se Go.Proofs.YtglffbhcnafbnaaDoor.sf
set_option linter.unusedVariables false

-- the source that a twin is
def tw (wd sz : Int) (ls : List ByteArray) (made : Bool) (fails code : Int) : Src := ⟨wd, if made then sz else ls.length, ls, made, fails, code⟩
structure Sized (ls : List ByteArray) : Prop where
  x : ∀ x ∈ ls, x.size ≤ 1048576
  k : ls.length ≤ 1048576
-- a source's block among others
theorem sj_new {s : Src} {sb : Nat} {lv : Value} {w : World} (hT : T7 w) (ho : So w sb s lv (.slice none 0 0)) (hsb : 7 ≤ sb) {B : Nat} (hB : sb < B) (hR : w.ownsRow B 9 1 lv s.ls.length (s.ls.map Value.string)) (hz : Sized s.ls) (hn : s.made = false → s.sz = s.ls.length) : Sj s sb lv w.heap.size (.slice none 0 0) (fun b => b = sb) [] w := by
  refine ⟨⟨hT, ho, own_readsT hR, hz.x, hn, ?_, hz.k⟩, World.ownsRow_nil _ _ _ _, fun b => ⟨fun h => .inl h, fun h => h.elim id (fun x => by cases x)⟩, ⟨hsb, ho.lt⟩, ?_, ⟨hT.t.t.big, Nat.le_refl _⟩⟩
  · intro a n c he
    rcases hR.2 with ⟨e, _⟩ | ⟨gg, cap, cur, e, _, _, _, hm, _⟩
    · rw [e] at he; injection he with _ _ e3; omega
    · rw [e] at he; injection he with _ _ e3; unfold maxLen at hm; omega
  · intro b off n c he
    have hg : lv.ownBlock = some b := by
      rcases hR.2 with ⟨e, _⟩ | ⟨gg, cap, cur, e, _⟩
      · rw [e] at he; cases he
      · rw [e] at he ⊢
        injection he with e1 e2 e3
        injection e1 with e1
        injection e1 with e1 e4
        subst e1
        rfl
    obtain ⟨h1, h2⟩ := owns_lt hR hg
    exact ⟨h1, fun e => by omega⟩
def Twinned (w : World) (s : Src) (e : Ending) (w' : World) : Prop := (∃ sb lv', e = .returned (.pointer (some ⟨sb, 0, none⟩)) ∧ w.heap.size ≤ sb ∧ (∀ b off n c, lv' = .slice (some ⟨b, off, none⟩) n c → w.heap.size ≤ b) ∧ Sj s sb lv' w'.heap.size (.slice none 0 0) (fun b => b = sb) [] w') ∧ Below w.heap.size w w'
set_option maxHeartbeats 3200000 in
set_option maxRecDepth 100000 in
theorem twinS (wd sz : Int) (lv : Value) (ls : List ByteArray) (made : Bool) (fails code : Int) (aa : Option Addr) (an ac : Nat) (w : World) (hT : T7 w) (hR : ReadsT w lv ls) (hno : ∀ k c, lv = .slice none k c → c = 0) (hz : Sized ls) :
    Calls Tryd.prog 24 #[.agg #[.int .i64 wd, .int .i64 sz, lv, .bool made, .int .i64 fails, .int .i64 code, .slice aa an ac]] w (Twinned w (tw wd sz ls made fails code)) := by
  obtain ⟨i9, hi, hz0, hz1, hz2⟩ := ka.info_parts ka.hi9
  have HIN : Hid (_ ∧ _ ∧ _ ∧ _) := ⟨hi, hz0, hz1, hz2⟩
  have HT : Hid (T7 w) := hT
  have HZ : Hid (Sized ls) := hz
  have HRD : Hid (ReadsT w lv ls) := hR
  obtain ⟨a, cap, rfl, hcap, hh⟩ := hR
  obtain ⟨n, HN⟩ : ∃ n, Hid (ls.length = n) := ⟨_, rfl⟩
  have HC0 : Hid (a = none → cap = 0) := fun h => hno ls.length cap (by rw [h])
  have hnk : n ≤ 1048576 := by have := hz.k; rw [HN.out] at this; exact this
  rw [HN.out] at hcap HRD ⊢
  obtain ⟨W2, HW2⟩ : ∃ W2, Hid ((w.alloc (.cells #[.int .i64 wd, .int .i64 sz, .slice a n cap, .bool made, .int .i64 fails, .int .i64 code, .slice aa an ac] 51)).alloc (.cells #[.int .i64 wd, .int .i64 sz, .slice a n cap, .bool made, .int .i64 fails, .int .i64 code, .slice none 0 0] 51) = W2) := ⟨_, rfl⟩
  have B2 : Hid (Below w.heap.size w W2) := by show Below _ _ _; rw [← HW2.out]; exact ((Below.refl _ _).alloc (Nat.le_refl _) _).alloc (by simp) _
  have s1 : (w.alloc (.cells #[.int .i64 wd, .int .i64 sz, .slice a n cap, .bool made, .int .i64 fails, .int .i64 code, .slice aa an ac] 51)).heap.size = w.heap.size + 1 := by simp
  have HY : Hid (W2.heap[w.heap.size + 1]? = some (.cells #[.int .i64 wd, .int .i64 sz, .slice a n cap, .bool made, .int .i64 fails, .int .i64 code, .slice none 0 0] 51 (0, 0))) := by
    show _ = _
    rw [← HW2.out, ← s1]
    exact heap_alloc_new _ _
  have S2 : Hid (W2.heap.size = w.heap.size + 2) := by show _ = _; rw [← HW2.out]; simp
  have X2 : W2.cell? ⟨w.heap.size, 2, none⟩ = some (.slice a n cap) := by
    rw [← HW2.out]
    refine (Below.cell (B := w.heap.size + 1) ((Below.refl _ _).alloc (by simp) _) (p := ⟨w.heap.size, 2, none⟩) (by show w.heap.size < w.heap.size + 1; omega)).trans ?_
    rw [World.cell?_alloc_at _ _ _ _ rfl]; rfl
  clear hh hi hz0 hz1 hz2 hno hT hz s1
  have RD2 : Hid (ReadsT W2 (.slice a n cap) ls) := HRD.out.later B2.out
  have TAIL : Hid (∀ (f' : Value) (w3 : World), w3.ownsRow W2.heap.size 9 1 f' n (ls.map Value.string) → Below W2.heap.size W2 w3 → ∃ fa fc, f' = .slice fa n fc ∧ w3.heap[w.heap.size + 1]? = some (.cells #[.int .i64 wd, .int .i64 sz, .slice a n cap, .bool made, .int .i64 fails, .int .i64 code, .slice none 0 0] 51 (0, 0))) := by
    intro f' w3 ho hb
    obtain ⟨fa, fc, rfl⟩ := own_formS ho
    exact ⟨fa, fc, rfl, (hb.block _ (by rw [S2.out]; omega)).trans HY.out⟩
  have FIN : Hid (∀ (f' : Value) (w3 : World) (s' : Int) (w5 : World), w3.ownsRow W2.heap.size 9 1 f' n (ls.map Value.string) → Below W2.heap.size W2 w3 → s' = (if made then sz else (n : Int)) → Kp (fun b => b = w.heap.size + 1) w3 w5 → w5.heap[w.heap.size + 1]? = some (.cells #[.int .i64 wd, .int .i64 s', f', .bool made, .int .i64 fails, .int .i64 code, .slice none 0 0] 51 (0, 0)) →
      Twinned w (tw wd sz ls made fails code) (.returned (.pointer (some ⟨w.heap.size + 1, 0, none⟩))) w5) := by
    intro f' w3 s' w5 ho hb hs hk h5
    have hb5 : Below w.heap.size w w5 := (B2.out.trans (hb.mono B2.out.size)).trans (hk.below (fun k hk => by omega) (Nat.le_trans B2.out.size hb.size))
    have ho5 : w5.ownsRow W2.heap.size 9 1 f' n (ls.map Value.string) := owns_keep ho (fun gg hg => hk.block gg (owns_lt ho hg).1 (fun e => by have := (owns_lt ho hg).2; rw [S2.out] at this; omega))
    refine ⟨⟨w.heap.size + 1, f', rfl, by omega, ?_, ?_⟩, hb5⟩
    · intro b off n' c he
      have hg : f'.ownBlock = some b := by rw [he]; rfl
      have := (owns_lt ho5 hg).2
      rw [S2.out] at this
      omega
    · have e1 : (tw wd sz ls made fails code).ls.length = n := HN.out
      refine sj_new (B := W2.heap.size) (HT.out.down hb5) ?_ (by have := HT.out.t.t.big; omega) (by rw [S2.out]; omega) (by rw [e1]; exact ho5) HZ.out ?_
      · show _ = _
        rw [h5]
        show some (Obj.cells #[.int .i64 wd, .int .i64 s', f', .bool made, .int .i64 fails, .int .i64 code, .slice none 0 0] 51 (0, 0)) = some (Obj.cells #[.int .i64 wd, .int .i64 (if made then sz else (ls.length : Int)), f', .bool made, .int .i64 fails, .int .i64 code, .slice none 0 0] 51 (0, 0))
        rw [hs, HN.out]
      · intro h
        have h' : made = false := h
        show (if made then sz else (ls.length : Int)) = ls.length
        rw [h']
        rfl
  cases a with
  | none =>
      obtain rfl : cap = 0 := HC0.out rfl
      have hn0 : n = 0 := by omega
      have hx0 : ls = [] := List.length_eq_zero_iff.1 (HN.out.trans hn0)
      have O0 : Hid (W2.ownsRow W2.heap.size 9 1 (.slice none 0 0) 0 []) := World.ownsRow_nil _ _ _ _
      have HO3 : Hid (W2.ownsRow W2.heap.size 9 1 (.slice none 0 0) n (ls.map Value.string)) := by show World.ownsRow _ _ _ _ _ _ _; rw [hx0, hn0]; exact O0.out
      have HB3 : Hid (Below W2.heap.size W2 W2) := Below.refl _ _
      have HY3 := HY.out
      have d2 : W2.cell? ⟨w.heap.size + 1, 2, none⟩ = some (.slice none n 0) := by rw [cell_of_row _ _ _ _ _ _ HY3]; rfl
      have f2 := frozen_of_row W2 (w.heap.size + 1) 2 _ _ HY3
      subst hn0
      clear HC0 hx0
      go_enter Tryd.func24, Tryd.ntmps24
      go_upto_region 3 with fail
      rw [HW2.out]
      go_upto_region 4 with (at_builtin; refine wpList_append_own_none rfl _ _ 28 rfl W2.heap.size 9 i9 1 Tryd.underlying28 HIN.out.1 _ 0 _ rfl O0.out rfl ?_)
      have H4 := heap_setCell_same W2 _ 2 _ _ (.slice none 0 0) HY3
      obtain ⟨W4, HW4⟩ : ∃ W4, Hid (W2.setCell ⟨w.heap.size + 1, 2, none⟩ (.slice none 0 0) = W4) := ⟨_, rfl⟩
      rw [HW4.out] at H4
      have H4' : W4.heap[w.heap.size + 1]? = some (.cells #[.int .i64 wd, .int .i64 sz, .slice none 0 0, .bool made, .int .i64 fails, .int .i64 code, .slice none 0 0] 51 (0, 0)) := H4
      have e3 : W4.cell? ⟨w.heap.size + 1, 3, none⟩ = some (.bool made) := by rw [cell_of_row _ _ _ _ _ _ H4']; rfl
      have e2 : W4.cell? ⟨w.heap.size + 1, 2, none⟩ = some (.slice none 0 0) := by rw [cell_of_row _ _ _ _ _ _ H4']; rfl
      have e1 : W4.cell? ⟨w.heap.size + 1, 1, none⟩ = some (.int .i64 sz) := by rw [cell_of_row _ _ _ _ _ _ H4']; rfl
      have f1 := frozen_of_row W4 (w.heap.size + 1) 1 _ _ H4'
      have K4 : Hid (Kp (fun b => b = w.heap.size + 1) W2 W4) := by show Kp _ _ _; rw [← HW4.out]; exact Kp.setCell (A := fun b => b = w.heap.size + 1) _ _ _ _ rfl
      have H5 := heap_setCell_same W4 _ 1 _ _ (.int .i64 0) H4'
      have HH4 : Hid (W4.heap[w.heap.size + 1]? = some (.cells #[.int .i64 wd, .int .i64 sz, .slice none 0 0, .bool made, .int .i64 fails, .int .i64 code, .slice none 0 0] 51 (0, 0))) := H4'
      have HH5 : Hid ((W4.setCell ⟨w.heap.size + 1, 1, none⟩ (.int .i64 0)).heap[w.heap.size + 1]? = some (.cells #[.int .i64 wd, .int .i64 0, .slice none 0 0, .bool made, .int .i64 fails, .int .i64 code, .slice none 0 0] 51 (0, 0))) := H5
      clear HY3 H4 H4' H5
      rw [HW4.out]
      cases made with
      | true =>
        go_wp2
        go_ret
        exact FIN.out _ W2 sz W4 HO3.out HB3.out rfl K4.out HH4.out
      | false =>
        go_wp2
        go_ret
        exact FIN.out _ W2 0 _ HO3.out HB3.out rfl (K4.out.trans (Kp.setCell (A := fun b => b = w.heap.size + 1) _ _ _ _ rfl)) HH5.out
  | some ad =>
      have HNW : Hid (∀ (j : Nat) (u : Value), (ls.map Value.string)[j]? = some u → W2.cell? (ad.add j) = some u) := reads_news RD2.out
      have HNL : Hid ((ls.map Value.string).length = n * 1) := by show _ = _; rw [List.length_map, HN.out, Nat.mul_one]
      have HN1 : Hid (∀ u ∈ ls.map Value.string, u.oneCell' = true) := by
        intro u hu
        obtain ⟨x, _, rfl⟩ := List.mem_map.1 hu
        rfl
      have O0 : Hid (W2.ownsRow W2.heap.size 9 1 (.slice none 0 0) 0 []) := World.ownsRow_nil _ _ _ _
      go_enter Tryd.func24, Tryd.ntmps24
      go_upto_region 3 with fail
      rw [HW2.out]
      go_upto_region 4 with (at_builtin; refine wpList_append_own _ rfl _ _ 28 rfl W2.heap.size 9 i9 (.string ByteArray.empty) 1 16 Tryd.underlying28 HIN.out.1 HIN.out.2.1 HIN.out.2.2.1 HIN.out.2.2.2 rfl (by decide) _ 0 _ rfl O0.out ad n cap (ls.map Value.string) rfl HNL.out HNW.out HN1.out (by unfold maxLen; omega) (by omega) (Nat.le_refl _) ?_; intro f' w3 ho hg hnn; have HO3 : Hid (w3.ownsRow W2.heap.size 9 1 f' n (ls.map Value.string)) := (by have := ho; rw [Nat.zero_add, List.nil_append] at this; exact this); have HB3 : Hid (Below W2.heap.size W2 w3) := Below.grown (Below.refl _ _) hg (Nat.le_refl _) (fun j hj => by cases hj); clear ho hg hnn; obtain ⟨fa, fc, rfl, HY3⟩ := TAIL.out f' w3 HO3.out HB3.out; have d2 : w3.cell? ⟨w.heap.size + 1, 2, none⟩ = some (.slice (some ad) n cap) := (by rw [cell_of_row _ _ _ _ _ _ HY3]; rfl); have f2 := frozen_of_row w3 (w.heap.size + 1) 2 _ _ HY3)
      have H4 := heap_setCell_same w3 _ 2 _ _ (.slice fa n fc) HY3
      obtain ⟨W4, HW4⟩ : ∃ W4, Hid (w3.setCell ⟨w.heap.size + 1, 2, none⟩ (.slice fa n fc) = W4) := ⟨_, rfl⟩
      rw [HW4.out] at H4
      have H4' : W4.heap[w.heap.size + 1]? = some (.cells #[.int .i64 wd, .int .i64 sz, .slice fa n fc, .bool made, .int .i64 fails, .int .i64 code, .slice none 0 0] 51 (0, 0)) := H4
      have e3 : W4.cell? ⟨w.heap.size + 1, 3, none⟩ = some (.bool made) := by rw [cell_of_row _ _ _ _ _ _ H4']; rfl
      have e2 : W4.cell? ⟨w.heap.size + 1, 2, none⟩ = some (.slice fa n fc) := by rw [cell_of_row _ _ _ _ _ _ H4']; rfl
      have e1 : W4.cell? ⟨w.heap.size + 1, 1, none⟩ = some (.int .i64 sz) := by rw [cell_of_row _ _ _ _ _ _ H4']; rfl
      have f1 := frozen_of_row W4 (w.heap.size + 1) 1 _ _ H4'
      have K4 : Hid (Kp (fun b => b = w.heap.size + 1) w3 W4) := by show Kp _ _ _; rw [← HW4.out]; exact Kp.setCell (A := fun b => b = w.heap.size + 1) _ _ _ _ rfl
      have H5 := heap_setCell_same W4 _ 1 _ _ (.int .i64 (n : Int)) H4'
      have HH4 : Hid (W4.heap[w.heap.size + 1]? = some (.cells #[.int .i64 wd, .int .i64 sz, .slice fa n fc, .bool made, .int .i64 fails, .int .i64 code, .slice none 0 0] 51 (0, 0))) := H4'
      have HH5 : Hid ((W4.setCell ⟨w.heap.size + 1, 1, none⟩ (.int .i64 n)).heap[w.heap.size + 1]? = some (.cells #[.int .i64 wd, .int .i64 n, .slice fa n fc, .bool made, .int .i64 fails, .int .i64 code, .slice none 0 0] 51 (0, 0))) := H5
      clear HY3 H4 H4' H5
      rw [HW4.out]
      cases made with
      | true =>
        go_wp2
        go_ret
        exact FIN.out _ w3 sz W4 HO3.out HB3.out rfl K4.out HH4.out
      | false =>
        go_wp2
        go_ret
        exact FIN.out _ w3 n _ HO3.out HB3.out rfl (K4.out.trans (Kp.setCell (A := fun b => b = w.heap.size + 1) _ _ _ _ rfl)) HH5.out
end Go.Proofs.YtglffbhcnafbnaaDoor.sg

namespace Go.Proofs.YtglffbhcnafbnaaDoor.sh
open Go.RowKit Go.PlainAid Go.Shelf
open Go.Proofs.YtglffbhcnafbnaaDoor.pl Go.Proofs.YtglffbhcnafbnaaDoor.pi Go.Proofs.YtglffbhcnafbnaaDoor.rf Go.Proofs.YtglffbhcnafbnaaDoor.pj Go.Proofs.YtglffbhcnafbnaaDoor.ca Go.Proofs.YtglffbhcnafbnaaDoor.cb Go.Proofs.YtglffbhcnafbnaaDoor.cp Go.Proofs.YtglffbhcnafbnaaDoor.cs Go.Proofs.YtglffbhcnafbnaaDoor.xc Go.Proofs.YtglffbhcnafbnaaDoor.ka Go.Proofs.YtglffbhcnafbnaaDoor.kb Go.Proofs.YtglffbhcnafbnaaDoor.ga Go.Proofs.YtglffbhcnafbnaaDoor.aa Go.Proofs.YtglffbhcnafbnaaDoor.ab Go.Proofs.YtglffbhcnafbnaaDoor.tb Go.Proofs.YtglffbhcnafbnaaDoor.ac Go.Proofs.YtglffbhcnafbnaaDoor.bc Go.Proofs.YtglffbhcnafbnaaDoor.bd Go.Proofs.YtglffbhcnafbnaaDoor.bh Go.Proofs.YtglffbhcnafbnaaDoor.sa Go.Proofs.YtglffbhcnafbnaaDoor.sb Go.Proofs.YtglffbhcnafbnaaDoor.sc Go.Proofs.YtglffbhcnafbnaaDoor.sd Go.Proofs.YtglffbhcnafbnaaDoor.se Go.Proofs.YtglffbhcnafbnaaDoor.sf Go.Proofs.YtglffbhcnafbnaaDoor.sg
set_option linter.unusedVariables false

theorem box_and_box (w : World) (x y z u : Value) (t t' : TypeId) : ((w.alloc (.cells #[x, y, z] t)).alloc (.cells #[u] t')).drew.cell? ⟨w.heap.size, 0, none⟩ = some x ∧ ((w.alloc (.cells #[x, y, z] t)).alloc (.cells #[u] t')).drew.cell? ⟨w.heap.size, 1, none⟩ = some y ∧ ((w.alloc (.cells #[x, y, z] t)).alloc (.cells #[u] t')).drew.cell? ⟨w.heap.size, 2, none⟩ = some z ∧ ((w.alloc (.cells #[x, y, z] t)).alloc (.cells #[u] t')).drew.cell? ⟨w.heap.size + 1, 0, none⟩ = some u := by
  have h3 := three_box w x y z t
  have s1 : (w.alloc (.cells #[x, y, z] t)).heap.size = w.heap.size + 1 := by simp
  have B : Below (w.alloc (.cells #[x, y, z] t)).heap.size (w.alloc (.cells #[x, y, z] t)) ((w.alloc (.cells #[x, y, z] t)).alloc (.cells #[u] t')).drew := below_dN ((Below.refl _ _).alloc (Nat.le_refl _) _) 1
  refine ⟨(B.cell (World.block_lt_of_cell? _ _ h3.1)).trans h3.1, (B.cell (World.block_lt_of_cell? _ _ h3.2.1)).trans h3.2.1, (B.cell (World.block_lt_of_cell? _ _ h3.2.2)).trans h3.2.2, ?_⟩
  show ((w.alloc (.cells #[x, y, z] t)).alloc (.cells #[u] t')).cell? _ = _
  rw [← s1, World.cell?_alloc_at _ _ _ _ rfl]; rfl
def Readers (s : Src) (sb : Nat) (lv : Value) (base : Nat) (w : World) (F : Nat → Prop) (l : List (Nat × Nat)) (e : Ending) (w' : World) : Prop := (∃ tb, e = .returned (.agg #[.int .i64 s.wd, .int .i64 s.sz, .func (.func 58) #[.pointer (some ⟨tb, 0, none⟩)] #[]]) ∧ TJ s sb lv base tb F l w') ∧ Below w.heap.size w w'
theorem readerS (s : Src) (sb : Nat) (lv : Value) (base : Nat) (F : Nat → Prop) (l : List (Nat × Nat)) (w : World) (hcd : i64 s.code) (hS : SJ s sb lv base F l w) :
    Calls Tryd.prog 25 #[.pointer (some ⟨sb, 0, none⟩)] w (Readers s sb lv base w F l) := by
  obtain ⟨k0, k1⟩ := SJ.cells hS
  have HJ : Hid (SJ s sb lv base F l w) := hS
  have HC : Hid (i64 s.code) := hcd
  unfold Readers
  obtain ⟨wd, HWD⟩ : ∃ x, Hid (s.wd = x) := ⟨_, rfl⟩
  obtain ⟨sz, HSZ⟩ : ∃ x, Hid (s.sz = x) := ⟨_, rfl⟩
  rw [HWD.out] at k0 ⊢
  rw [HSZ.out] at k1 ⊢
  obtain ⟨R0, HR0⟩ : ∃ R0, Hid (.cells #[.int .i64 0, .int .i64 0, .nilFunc] 24 = (R0 : Obj)) := ⟨_, rfl⟩
  have B0 : Hid (∀ o : Obj, Below w.heap.size w ((w.alloc o).alloc (.cells #[.pointer (some ⟨sb, 0, none⟩)] 92))) := fun o => ((Below.refl _ _).alloc (Nat.le_refl _) _).alloc (by simp) _
  have j0 := ((B0.out (.cells #[.int .i64 0, .int .i64 0, .nilFunc] 24)).cell (World.block_lt_of_cell? _ _ k0)).trans k0
  have j1 := ((B0.out (.cells #[.int .i64 0, .int .i64 0, .nilFunc] 24)).cell (World.block_lt_of_cell? _ _ k1)).trans k1
  have G : Hid (_ ∧ _ ∧ _ ∧ _) := box_and_box w (.int .i64 wd) (.int .i64 sz) (.func (.func 58) #[.pointer (some ⟨w.heap.size + 1, 0, none⟩)] #[]) (.pointer (some ⟨sb, 0, none⟩)) 24 92
  have B1 : Hid (Below w.heap.size w ((w.alloc (.cells #[.int .i64 wd, .int .i64 sz, .func (.func 58) #[.pointer (some ⟨w.heap.size + 1, 0, none⟩)] #[]] 24)).alloc (.cells #[.pointer (some ⟨sb, 0, none⟩)] 92)).drew) := below_dN (B0.out _) 1
  clear hS hcd
  go_enter Tryd.func25, Tryd.ntmps25
  go_wp2
  go_region
  all_goals (
    go_wp2
    (try simp only [Exit.inBlock, Exit.then])
    refine bodyPost_ret (by simp [results, Tryd.results25, go_sem, G.out.1, G.out.2.1, G.out.2.2.1]; try rfl) rfl ?_
    exact ⟨⟨w.heap.size + 1, rfl, (srcR s sb lv base HC.out).later HJ.out B1.out, G.out.2.2.2, fun hF => by have := (srcR s sb lv base HC.out).within HJ.out _ hF; omega⟩, B1.out⟩)
theorem goesS (s : Src) (sb : Nat) (n : Int) (w : World) (hc : w.cell? ⟨sb, 1, none⟩ = some (.int .i64 s.sz)) : Calls Tryd.prog 59 #[.pointer (some ⟨sb, 0, none⟩), .int .i64 n] w fun e w' => e = .returned (.int .i64 (chk s.sz n)) ∧ w' = w := by
  generalize s.sz = sz at *
  by_cases h1 : sz < 0
  · have HE : Hid (chk sz n = 10) := by show _ = _; unfold chk; rw [if_pos (.inl h1)]
    rw [HE.out]
    go_enter Tryd.func59, Tryd.ntmps59
    go_wp2
    go_ret
    exact ⟨rfl, rfl⟩
  · by_cases h2 : 4611686018427387904 < sz
    · have HE : Hid (chk sz n = 10) := by show _ = _; unfold chk; rw [if_pos (.inr h2)]
      rw [HE.out]
      go_enter Tryd.func59, Tryd.ntmps59
      go_wp2
      go_ret
      exact ⟨rfl, rfl⟩
    · by_cases h3 : n < 0
      · have HE : Hid (chk sz n = 80) := by show _ = _; unfold chk; rw [if_neg (by omega), if_pos (.inl h3)]
        rw [HE.out]
        go_enter Tryd.func59, Tryd.ntmps59
        go_wp2
        go_ret
        exact ⟨rfl, rfl⟩
      · by_cases h4 : sz < n
        · have HE : Hid (chk sz n = 80) := by show _ = _; unfold chk; rw [if_neg (by omega), if_pos (.inr h4)]
          rw [HE.out]
          go_enter Tryd.func59, Tryd.ntmps59
          go_wp2
          go_ret
          exact ⟨rfl, rfl⟩
        · have HE : Hid (chk sz n = 0) := by show _ = _; unfold chk; rw [if_neg (by omega), if_neg (by omega)]
          rw [HE.out]
          go_enter Tryd.func59, Tryd.ntmps59
          go_wp2
          go_ret
          exact ⟨rfl, rfl⟩
-- two sources that were asked for the same
theorem eqA (a b x y : Int) (w : World) : (binOp .neq 36 (.agg #[.int .i64 a, .int .i64 b]) (.agg #[.int .i64 x, .int .i64 y])).run Tryd.prog w = .ok (.bool (!(a == x && b == y))) w := by
  by_cases h1 : a = x <;> by_cases h2 : b = y <;> simp [go_sem, h1, h2]
set_option maxHeartbeats 1600000 in
theorem askedS (s : Src) (sb tb : Nat) (lv lv' : Value) (base base' : Nat) (F F' : Nat → Prop) (l : List (Nat × Nat)) (w : World) (hS : SJ s sb lv base F l w) (hS' : SJ s tb lv' base' F' l w) (hl : l.length ≤ 4294967296) :
    Calls Tryd.prog 27 #[.pointer (some ⟨sb, 0, none⟩), .pointer (some ⟨tb, 0, none⟩)] w fun e w' => e = .returned (.bool true) ∧ ∃ m, w' = w.drewN m := by
  obtain ⟨av, h1⟩ := hS
  obtain ⟨av', h2⟩ := hS'
  have r1 := own_readsA h1.own
  have r2 := own_readsA h2.own
  have k1 := h1.q.o.cells.2.2.2.2.2.2
  have k2 := h2.q.o.cells.2.2.2.2.2.2
  obtain ⟨a1, c1, rfl⟩ := formA r1
  obtain ⟨a2, c2, rfl⟩ := formA r2
  have HR1 : Hid (ReadsA w (.slice a1 l.length c1) l) := r1
  have HR2 : Hid (ReadsA w (.slice a2 l.length c2) l) := r2
  obtain ⟨n, HN⟩ : ∃ n, Hid (l.length = n) := ⟨_, rfl⟩
  rw [HN.out] at HR1 HR2 k1 k2 hl
  have qn : ((n : Int) == (n : Int)) = true := beq_self_eq_true _
  clear r1 r2 h1 h2
  go_enter Tryd.func27, Tryd.ntmps27
  go_wp2_with fail
  go_quiet (fail)
  go_wp2
  go_loopw [5] (fun i wr => ∃ k m : Nat, k ≤ n ∧ i = .int .i64 k ∧ wr = w.drewN m) (fun i _ => (n - intOf i).toNat)
  case atStart => exact ⟨0, _, by omega, rfl, rfl⟩
  case round =>
    obtain ⟨k, m, hk, rfl, rfl⟩ := hrel
    by_cases hlt : k < n
    · have hlt' : (k : Int) < n := by omega
      have hkl : k < l.length := by rw [HN.out]; exact hlt
      obtain ⟨x, hx⟩ : ∃ x, l[k]? = some x := ⟨_, List.getElem?_eq_getElem hkl⟩
      obtain ⟨b1, rfl, c11, c12⟩ := row_at HR1.out (k := x.1) (i := x.2) hx
      obtain ⟨b2, rfl, c21, c22⟩ := row_at HR2.out (k := x.1) (i := x.2) hx
      have qq := fun w => eqA (x.1 : Int) (x.2 : Int) (x.1 : Int) (x.2 : Int) w
      simp only [beq_self_eq_true, Bool.and_self, Bool.not_true] at qq
      clear hx
      go_wp2_with fail
      go_quiet (fail)
      go_wp2
      go_roundw
      case rel => exact ⟨k + 1, _, by omega, by go_num, rfl⟩
      case measure => simp [intOf]; omega
    · have hlt' : ¬ (k : Int) < n := by omega
      go_wp2
      go_ret
      exact ⟨rfl, _, rfl⟩
end Go.Proofs.YtglffbhcnafbnaaDoor.sh

namespace Go.Proofs.YtglffbhcnafbnaaDoor.sp
open Go.RowKit Go.PlainAid Go.Shelf
open Go.Proofs.YtglffbhcnafbnaaDoor.pl Go.Proofs.YtglffbhcnafbnaaDoor.pi Go.Proofs.YtglffbhcnafbnaaDoor.rf Go.Proofs.YtglffbhcnafbnaaDoor.pj Go.Proofs.YtglffbhcnafbnaaDoor.ca Go.Proofs.YtglffbhcnafbnaaDoor.cb Go.Proofs.YtglffbhcnafbnaaDoor.cp Go.Proofs.YtglffbhcnafbnaaDoor.cs Go.Proofs.YtglffbhcnafbnaaDoor.xc Go.Proofs.YtglffbhcnafbnaaDoor.ka Go.Proofs.YtglffbhcnafbnaaDoor.kb Go.Proofs.YtglffbhcnafbnaaDoor.ga Go.Proofs.YtglffbhcnafbnaaDoor.aa Go.Proofs.YtglffbhcnafbnaaDoor.ab Go.Proofs.YtglffbhcnafbnaaDoor.tb Go.Proofs.YtglffbhcnafbnaaDoor.ac Go.Proofs.YtglffbhcnafbnaaDoor.bc Go.Proofs.YtglffbhcnafbnaaDoor.bd Go.Proofs.YtglffbhcnafbnaaDoor.bh Go.Proofs.YtglffbhcnafbnaaDoor.sa Go.Proofs.YtglffbhcnafbnaaDoor.sb Go.Proofs.YtglffbhcnafbnaaDoor.sc Go.Proofs.YtglffbhcnafbnaaDoor.sd Go.Proofs.YtglffbhcnafbnaaDoor.se Go.Proofs.YtglffbhcnafbnaaDoor.sf Go.Proofs.YtglffbhcnafbnaaDoor.sg Go.Proofs.YtglffbhcnafbnaaDoor.sh
set_option linter.unusedVariables false

-- two sources side by side
structure Two (s : Src) (sb : Nat) (lv : Value) (base : Nat) (sb' : Nat) (lv' : Value) (base' : Nat) (F F' : Nat → Prop) (l l' : List (Nat × Nat)) (w : World) : Prop where
  a : SJ s sb lv base F l w
  b : SJ s sb' lv' base' F' l' w
  ab : ∀ b, F b → ¬ F' b
  da : ∀ b, F' b → ¬ Dp lv b
  db : ∀ b, F b → ¬ Dp lv' b
theorem Two.later {s : Src} {sb : Nat} {lv : Value} {base : Nat} {sb' : Nat} {lv' : Value} {base' : Nat} {F F' : Nat → Prop} {l l' : List (Nat × Nat)} {w w' : World} (hcd : i64 s.code) (h : Two s sb lv base sb' lv' base' F F' l l' w) (hb : Below w.heap.size w w') : Two s sb lv base sb' lv' base' F F' l l' w' :=
  ⟨(srcR s sb lv base hcd).later h.a hb, (srcR s sb' lv' base' hcd).later h.b hb, h.ab, h.da, h.db⟩
theorem Two.left {s : Src} {sb : Nat} {lv : Value} {base : Nat} {sb' : Nat} {lv' : Value} {base' : Nat} {F F' F2 : Nat → Prop} {l l' l2 : List (Nat × Nat)} {w w' : World} (hcd : i64 s.code) (h : Two s sb lv base sb' lv' base' F F' l l' w) (hg : Goes F w F2 w') (hj : SJ s sb lv base F2 l2 w') : Two s sb lv base sb' lv' base' F2 F' l2 l' w' := by
  refine ⟨hj, (srcR s sb' lv' base' hcd).keep h.b hg.1 (fun b hb => ⟨h.ab b hb, h.db b hb⟩), fun b hb hf => ?_, h.da, fun b hb hd => ?_⟩
  · rcases hg.2 b hb with g | g
    · exact h.ab b g hf
    · have := (srcR s sb' lv' base' hcd).within h.b b hf; omega
  · rcases hg.2 b hb with g | g
    · exact h.db b g hd
    · have := (srcR s sb' lv' base' hcd).big h.b b hd; omega
theorem Two.right {s : Src} {sb : Nat} {lv : Value} {base : Nat} {sb' : Nat} {lv' : Value} {base' : Nat} {F F' F2 : Nat → Prop} {l l' l2 : List (Nat × Nat)} {w w' : World} (hcd : i64 s.code) (h : Two s sb lv base sb' lv' base' F F' l l' w) (hg : Goes F' w F2 w') (hj : SJ s sb' lv' base' F2 l2 w') : Two s sb lv base sb' lv' base' F F2 l l2 w' := by
  refine ⟨(srcR s sb lv base hcd).keep h.a hg.1 (fun b hb => ⟨fun hf => h.ab b hf hb, h.da b hb⟩), hj, fun b hf hb => ?_, fun b hb hd => ?_, h.db⟩
  · rcases hg.2 b hb with g | g
    · exact h.ab b hf g
    · have := (srcR s sb lv base hcd).within h.a b hf; omega
  · rcases hg.2 b hb with g | g
    · exact h.da b g hd
    · have := (srcR s sb lv base hcd).big h.a b hd; omega
-- the two twins
theorem two_of {s : Src} {w w1 w2 : World} {sb sb' : Nat} {lv lv' : Value} (hcd : i64 s.code) (hlt : w1.heap.size ≤ sb') (hlv : ∀ b off n c, lv' = .slice (some ⟨b, off, none⟩) n c → w1.heap.size ≤ b)
    (h1 : Sj s sb lv w1.heap.size (.slice none 0 0) (fun b => b = sb) [] w1) (h2 : Sj s sb' lv' w2.heap.size (.slice none 0 0) (fun b => b = sb') [] w2) (hb : Below w1.heap.size w1 w2) : Two s sb lv w1.heap.size sb' lv' w2.heap.size (fun b => b = sb) (fun b => b = sb') [] [] w2 := by
  have l1 := h1.q.o.lt
  refine ⟨(srcR s sb lv _ hcd).later ⟨_, h1⟩ hb, ⟨_, h2⟩, fun b e1 e2 => by omega, fun b e1 hd => ?_, fun b e1 hd => ?_⟩
  · have := h1.dep b hd; omega
  · subst e1
    rcases hd with hd | ⟨off, n, c, he⟩
    · have := h1.sbq; omega
    · have := hlv _ off n c he; omega
-- over a world w0: nothing that was there has turned
def Over (w0 : World) (F F' : Nat → Prop) (w : World) : Prop := Below w0.heap.size w0 w ∧ (∀ b, F b → w0.heap.size ≤ b) ∧ (∀ b, F' b → w0.heap.size ≤ b)
theorem Over.later {w0 w w' : World} {F F' : Nat → Prop} (h : Over w0 F F' w) (hb : Below w.heap.size w w') : Over w0 F F' w' := ⟨over h.1 hb, h.2⟩
theorem Over.left {w0 w w' : World} {F F' F2 : Nat → Prop} (h : Over w0 F F' w) (hg : Goes F w F2 w') : Over w0 F2 F' w' :=
  ⟨h.1.trans (hg.1.below h.2.1 h.1.size), fun b hb => (hg.2 b hb).elim (h.2.1 b) (fun g => Nat.le_trans h.1.size g), h.2.2⟩
theorem Over.right {w0 w w' : World} {F F' F2 : Nat → Prop} (h : Over w0 F F' w) (hg : Goes F' w F2 w') : Over w0 F F2 w' :=
  ⟨h.1.trans (hg.1.below h.2.2 h.1.size), h.2.1, fun b hb => (hg.2 b hb).elim (h.2.2 b) (fun g => Nat.le_trans h.1.size g)⟩
end Go.Proofs.YtglffbhcnafbnaaDoor.sp

namespace Go.Proofs.YtglffbhcnafbnaaDoor.ws
open Go.RowKit Go.PlainAid
open Go.Proofs.YtglffbhcnafbnaaDoor.cp Go.Proofs.YtglffbhcnafbnaaDoor.cv Go.Proofs.YtglffbhcnafbnaaDoor.ka Go.Proofs.YtglffbhcnafbnaaDoor.sa Go.Proofs.YtglffbhcnafbnaaDoor.sg
set_option linter.unusedVariables false

theorem le_sum (xs : List ByteArray) : ∀ x ∈ xs, x.size ≤ (xs.map ByteArray.size).sum := by
  induction xs with
  | nil => intro x hx; cases hx
  | cons y ys ih =>
    intro x hx
    rw [List.map_cons, List.sum_cons]
    rcases List.mem_cons.1 hx with rfl | hx
    · omega
    · have := ih x hx; omega
theorem sized_of {xs : List ByteArray} (h : (xs.map ByteArray.size).sum + xs.length ≤ 1048576) : Sized xs := by
  refine ⟨fun x hx => ?_, by omega⟩
  have := le_sum xs x hx
  omega
end Go.Proofs.YtglffbhcnafbnaaDoor.ws

namespace Go.Proofs.YtglffbhcnafbnaaDoor.ta
open Go.RowKit Go.PlainAid Go.Shelf
open Go.Proofs.YtglffbhcnafbnaaDoor.pl Go.Proofs.YtglffbhcnafbnaaDoor.pi Go.Proofs.YtglffbhcnafbnaaDoor.rf Go.Proofs.YtglffbhcnafbnaaDoor.pj Go.Proofs.YtglffbhcnafbnaaDoor.ca Go.Proofs.YtglffbhcnafbnaaDoor.cb Go.Proofs.YtglffbhcnafbnaaDoor.cp Go.Proofs.YtglffbhcnafbnaaDoor.cs Go.Proofs.YtglffbhcnafbnaaDoor.xc Go.Proofs.YtglffbhcnafbnaaDoor.ka Go.Proofs.YtglffbhcnafbnaaDoor.kb Go.Proofs.YtglffbhcnafbnaaDoor.ga Go.Proofs.YtglffbhcnafbnaaDoor.aa Go.Proofs.YtglffbhcnafbnaaDoor.ab Go.Proofs.YtglffbhcnafbnaaDoor.tb Go.Proofs.YtglffbhcnafbnaaDoor.ac Go.Proofs.YtglffbhcnafbnaaDoor.bc Go.Proofs.YtglffbhcnafbnaaDoor.bd Go.Proofs.YtglffbhcnafbnaaDoor.bh Go.Proofs.YtglffbhcnafbnaaDoor.sa Go.Proofs.YtglffbhcnafbnaaDoor.sb Go.Proofs.YtglffbhcnafbnaaDoor.sc Go.Proofs.YtglffbhcnafbnaaDoor.sd Go.Proofs.YtglffbhcnafbnaaDoor.se Go.Proofs.YtglffbhcnafbnaaDoor.sf Go.Proofs.YtglffbhcnafbnaaDoor.sg Go.Proofs.YtglffbhcnafbnaaDoor.sh
set_option linter.unusedVariables false

theorem hiP : (Tryd.prog.info? 97).map (fun i => (i.zero, i.size, i.bytes)) = some (some (.agg #[.int .i64 0, .int .i64 0]), 2, 16) := by kernel_rfl
theorem part_news (W : World) (a : Nat × Nat) : ∀ (j : Nat) (u : Value), (cl a)[j]? = some u → (W.alloc (.cells #[.int .i64 a.1, .int .i64 a.2] 97)).cell? (Addr.add ⟨W.heap.size, 0, none⟩ j) = some u := two_cells W (.int .i64 a.1) (.int .i64 a.2) 97
theorem own_readsP {w : World} {B n : Nat} {v : Value} {L : List (Nat × Nat)} (h : w.ownsRow B 97 2 v n (cls L)) : ReadsA w v L := by
  have hn : L.length = n := by have := h.1; rw [cls_len] at this; omega
  subst hn
  rcases h.2 with ⟨rfl, h0⟩ | ⟨g, cap, cur, rfl, _, hg, _⟩
  · refine ⟨none, 0, by rw [h0], .inl h0⟩
  · refine ⟨_, cap, rfl, .inr ⟨g, rfl, fun i x hx => ?_⟩⟩
    have hi := (List.getElem?_eq_some_iff.1 hx).1
    obtain ⟨c1, c2⟩ := cls_get L i x hx
    exact ⟨(h.cellAt (i * 2) (by omega)).trans c1, (h.cellAt (i * 2 + 1) (by omega)).trans c2⟩
-- the document's split
set_option maxHeartbeats 800000 in
theorem splitD (n : Nat) (h : 2 ≤ n) (hn : n ≤ 4611686018427387904) (w : World) : Calls Tryd.prog 61 #[.int .i64 n] w fun e w' => e = .returned (.int .i64 (half n : Nat)) ∧ w' = w := by
  obtain ⟨i, he, g1, g2⟩ := half_is h
  rw [p2s] at g2
  have HE : Hid (half n = 2 ^ i) := he
  rw [he]
  obtain ⟨t, HTT⟩ : ∃ t : Nat, Hid ((2 : Nat) ^ i = t) := ⟨2 ^ i, rfl⟩
  rw [HTT.out] at g1 g2 ⊢
  clear he
  go_enter Tryd.func61, Tryd.ntmps61
  go_wp2
  go_loopw [3] (fun k wr => ∃ j q : Nat, j ≤ i ∧ Hid (q = 2 ^ j) ∧ k = .int .i64 q ∧ 1 ≤ q ∧ q ≤ t ∧ wr = w) (fun k _ => (n - intOf k).toNat)
  case atStart => exact ⟨0, 1, Nat.zero_le _, rfl, rfl, Nat.le_refl _, by rw [← HTT.out]; exact p2 i, rfl⟩
  case round =>
    obtain ⟨j, q, hj, HQ, rfl, hq1, hqt, rfl⟩ := hrel
    by_cases hji : j < i
    · have hlt : 2 * q ≤ t := by
        rw [HQ.out, ← HTT.out, ← p2s]
        exact p2le (by omega)
      have hc : (q : Int) < (n : Int) - q := by omega
      go_wp2
      go_roundw
      case rel => exact ⟨j + 1, 2 * q, by omega, by show _ = _; rw [HQ.out, p2s], by go_num, by omega, hlt, by first | rfl | trivial⟩
      case measure => simp [intOf]; omega
    · have hjj : j = i := by omega
      have hqq : q = t := by rw [HQ.out, hjj, HTT.out]
      have hc : ¬ (q : Int) < (n : Int) - q := by omega
      subst hqq
      clear hjj
      go_wp2
      go_ret
      exact ⟨rfl, rfl⟩
-- parts told, one behind the other
structure Td (s : Src) (sb : Nat) (lv : Value) (sbase : Nat) (nv : Value) (F0 : Nat → Prop) (w0 : World) (l0 L : List (Nat × Nat)) (base : Nat) (k : Nat) (u : Value) (wr : World) (F : Nat → Prop) (l : List (Nat × Nat)) (acc : List ByteArray) : Prop where
  j : SJ s sb lv sbase F l wr
  go : Goes F0 w0 F wr
  nodes : ReadsA wr nv L
  nout : ∀ b off n cap, nv = .slice (some ⟨b, off, none⟩) n cap → ¬ F b ∧ b < base
  own : wr.ownsRow base 9 1 u k (acc.map Value.string)
  bes : Beside F u
  base_le : w0.heap.size ≤ base ∧ base ≤ wr.heap.size
  bx : ∀ b, Dp lv b → b < w0.heap.size
  kk : k ≤ L.length ∧ acc.length = k ∧ l.length ≤ l0.length + 122 * k
  eq : told (okw s.wd) (fow s.wd) (askS s) l0 L = (acc ++ (told (okw s.wd) (fow s.wd) (askS s) l (L.drop k)).1, (told (okw s.wd) (fow s.wd) (askS s) l (L.drop k)).2)
set_option maxHeartbeats 3200000 in
theorem toldS (s : Src) (sb : Nat) (lv : Value) (sbase : Nat) (hcd : i64 s.code) (F : Nat → Prop) (l : List (Nat × Nat)) (v : Value) (B : Nat) (L : List (Nat × Nat)) (w : World) (hown : w.ownsRow B 97 2 v L.length (cls L)) (hbes : Beside F v) (hL : L.length ≤ 1000000) (hp : ∀ p ∈ L, p.1 ≤ p.2 ∧ p.2 ≤ 4611686018427387904) (hN : l.length + 122 * L.length ≤ 4294967296) (hJ : SJ s sb lv sbase F l w) :
    Calls Tryd.prog 62 #[.pointer (some ⟨sb, 0, none⟩), v] w (Proved (SJ s sb lv sbase) F w (told (okw s.wd) (fow s.wd) (askS s) l L)) := by
  have RR : Hid (Rd 81 #[.pointer (some ⟨sb, 0, none⟩)] #[] (askS s) (SJ s sb lv sbase) 4294967296 (Dp lv)) := srcR s sb lv sbase hcd
  have HJ : Hid (SJ s sb lv sbase F l w) := hJ
  have HP : Hid (∀ p ∈ L, p.1 ≤ p.2 ∧ p.2 ≤ 4611686018427387904) := hp
  have HCD : Hid (i64 s.code) := hcd
  obtain ⟨T, HTT⟩ : ∃ T, Hid (told (okw s.wd) (fow s.wd) (askS s) l L = T) := ⟨_, rfl⟩
  rw [HTT.out]
  obtain ⟨i9, hi9', hz0, hz1, hz2⟩ := ka.info_parts ka.hi9
  have HIN : Hid (_ ∧ _ ∧ _ ∧ _) := ⟨hi9', hz0, hz1, hz2⟩
  have hR := own_readsP hown
  obtain ⟨av, cap, rfl⟩ := formA hR
  obtain ⟨n, HLN⟩ : ∃ n, Hid (L.length = n) := ⟨_, rfl⟩
  have HH0 : Hid (Td s sb lv sbase (.slice av L.length cap) F w l L w.heap.size 0 (.slice none 0 0) w F l []) := by
    refine ⟨hJ, Goes.refl _ _, hR, ?_, World.ownsRow_nil _ _ _ _, (fun g h => by cases h), ⟨Nat.le_refl _, Nat.le_refl _⟩, RR.out.big hJ, ⟨Nat.zero_le _, rfl, by omega⟩, ?_⟩
    · intro b off n' cap' he
      have hg : (Value.slice av L.length cap).ownBlock = some b := by rw [he]; rfl
      exact ⟨hbes b hg, (owns_lt hown hg).1⟩
    · rw [List.drop_zero, List.nil_append]
  rw [HLN.out] at HH0 hL hN ⊢
  clear hJ hp hown hbes hR hi9' hz0 hz1 hz2 hcd
  go_enter Tryd.func62, Tryd.ntmps62
  go_wp2
  go_loopw [6, 7] (fun u i wr => ∃ k : Nat, i = .int .i64 k ∧ k ≤ n ∧ ∃ F' l' acc, Hid (Td s sb lv sbase (.slice av n cap) F w l L w.heap.size k u wr F' l' acc)) (fun _ i _ => (n - intOf i).toNat)
  case atStart => exact ⟨0, rfl, Nat.zero_le _, F, l, [], HH0.out⟩
  case round =>
    clear HH0
    obtain ⟨k, rfl, hkn, F', l', acc, HLP⟩ := hrel
    by_cases hk : k < n
    · have hk' : (k : Int) < n := by omega
      have hkl : k < L.length := by rw [HLN.out]; exact hk
      obtain ⟨x, hx⟩ : ∃ x, L[k]? = some x := ⟨_, List.getElem?_eq_getElem hkl⟩
      obtain ⟨b1, rfl, c1, c2⟩ := row_at HLP.out.nodes (k := x.1) (i := x.2) hx
      have HXX : Hid (L.drop k = x :: L.drop (k + 1) ∧ x ∈ L) := by
        have e := List.getElem?_eq_some_iff.1 hx
        exact ⟨by rw [List.drop_eq_getElem_cons hkl, e.2], List.mem_of_getElem? hx⟩
      have hpx := HP.out x HXX.out.2
      have BD : Hid (Below wr.heap.size wr wr.drew) := below_dN (Below.refl _ _) 1
      have C1 : Hid (Calls _ _ _ _ _) := hashS s sb lv sbase HCD.out F' l' x.1 x.2 wr.drew hpx.1 hpx.2 (by have := HLP.out.kk; rw [HLN.out] at this; omega) (RR.out.later HLP.out.j BD.out)
      obtain ⟨q, HQ⟩ : ∃ q, Hid (hashP (okw s.wd) (fow s.wd) (askS s) l' x = q) := ⟨_, rfl⟩
      rw [show (x.1, x.2) = x from rfl, HQ.out] at C1
      obtain ⟨h, c, lq⟩ := q
      dsimp only at C1
      have HQL : Hid (lq.length ≤ l'.length + 122) := by
        have := hashP_size (okw s.wd) (fow s.wd) (askS s) (l := l') (p := x) hpx.1 hpx.2
        rw [HQ.out] at this
        exact this
      clear hx hpx
      go_wp2_with fail
      go_region_with (first | (go_at_call 60; refine C1.out.mono ?_; rintro e w3 ⟨rfl, F3, hJ3, hG3⟩; have J3 : Hid (SJ s sb lv sbase F3 lq w3 ∧ Goes F' wr F3 w3 ∧ Goes F w F3 w3) := ⟨hJ3, (Goes.of_below BD.out).trans hG3, HLP.out.go.trans ((Goes.of_below BD.out).trans hG3)⟩; clear hJ3 hG3))
      all_goals (
        by_cases hc : c = 0
        · subst hc
          have HEQ : Hid (told (okw s.wd) (fow s.wd) (askS s) l L = ((acc ++ [h]) ++ (told (okw s.wd) (fow s.wd) (askS s) lq (L.drop (k + 1))).1, (told (okw s.wd) (fow s.wd) (askS s) lq (L.drop (k + 1))).2)) := by
            have h1 := HLP.out.eq
            rw [HXX.out.1, told_yes (okw s.wd) (fow s.wd) (askS s) (by rw [HQ.out]), HQ.out] at h1
            show _ = _
            rw [h1, List.append_assoc]
            rfl
          have OWB : Hid (_ ∧ Beside F3 u6) := J3.out.2.1.owns HLP.out.own HLP.out.bes
          have BB : Hid (Below w3.heap.size w3 (w3.alloc (.cells #[.string h] 9))) := (Below.refl _ _).alloc (Nat.le_refl _) _
          have OX : Hid ((w3.alloc (.cells #[.string h] 9)).ownsRow w.heap.size 9 1 u6 k (acc.map Value.string)) := own_later OWB.out.1 BB.out
          have SX : Hid (w.heap.size ≤ (w3.alloc (.cells #[.string h] 9)).heap.size) := by
            have h1 := HLP.out.base_le.2
            have h3 := J3.out.2.1.1.size
            have h4 := BB.out.size
            show _ ≤ _
            omega
          go_wp2_with (at_builtin; refine wpList_append_own_at _ rfl _ _ 28 rfl w.heap.size 9 i9 (.string ByteArray.empty) 1 16 Tryd.underlying28 HIN.out.1 HIN.out.2.1 HIN.out.2.2.1 HIN.out.2.2.2 rfl (by decide) _ k _ rfl OX.out ⟨w3.heap.size, 0, none⟩ 1 1 [.string h] rfl rfl (new_text _ _ _) (one_text _) (by unfold maxLen; omega) (by omega) SX.out ?_; intro p' w5 ho hg hnn hat; have HO5 : Hid (w5.ownsRow w.heap.size 9 1 p' (k + 1) (acc.map Value.string ++ [.string h])) := ho; have HG5 : Hid ((w3.alloc (.cells #[.string h] 9)).grownBy w5 u6.ownBlock ∧ (p'.ownBlock = u6.ownBlock ∨ p'.ownBlock = some (w3.alloc (.cells #[.string h] 9)).heap.size)) := ⟨hg, hat⟩; clear ho hg hnn hat)
          go_roundw
          case rel =>
            obtain ⟨j5, g5, b5⟩ := grow_beside RR.out (RR.out.later J3.out.1 BB.out) (J3.out.2.2.trans (Goes.of_below BB.out)) HLP.out.base_le.1 HLP.out.bx OX.out OWB.out.2 HG5.out.1 HG5.out.2
            have hbs : ∀ b, b < w.heap.size → b < (w3.alloc (.cells #[.string h] 9)).heap.size → w5.heap[b]? = (w3.alloc (.cells #[.string h] 9)).heap[b]? := fun b hb hlt => HG5.out.1.block b hlt (fun e => by have := (owns_lt OX.out e.symm).2; omega)
            have hro : ReadsA w5 (.slice (some ⟨b1, 0, none⟩) n cap) L := by
              have r1 := J3.out.2.1.readsA HLP.out.nodes (fun b off n cap he => (HLP.out.nout b off n cap he).1)
              exact readsA_keep (r1.later BB.out) (fun b off n cap he hlt => hbs b (HLP.out.nout b off n cap he).2 hlt)
            refine ⟨k + 1, by go_num, by omega, F3, lq, acc ++ [h], ⟨j5, g5, hro, ?_, ?_, b5, ⟨HLP.out.base_le.1, ?_⟩, HLP.out.bx, ⟨by rw [HLN.out]; omega, ?_, ?_⟩, HEQ.out⟩⟩
            · intro b off n' cap' he
              have q := HLP.out.nout b off n' cap' he
              exact ⟨J3.out.2.1.out (by have := HLP.out.base_le.2; omega) q.1, q.2⟩
            · rw [List.map_append]; exact HO5.out
            · exact Nat.le_trans SX.out HG5.out.1.size
            · rw [List.length_append, HLP.out.kk.2.1]; rfl
            · have h1 := HLP.out.kk.2.2
              have h2 := HQL.out
              omega
          case measure => simp [intOf]; omega
        · have q0 : (c == 0) = false := by rw [beq_eq_false_iff_ne]; exact hc
          have HE : Hid (T = (acc ++ [], c, lq)) := by
            have h1 := HLP.out.eq
            rw [HXX.out.1, told_no (okw s.wd) (fow s.wd) (askS s) (by rw [HQ.out]; exact hc), HQ.out, HTT.out] at h1
            exact h1
          have HCN : Hid (c ≠ 0) := hc
          clear hc
          go_wp2
          go_ret2
          rw [HE.out]
          refine ⟨.slice none 0 0, F3, rfl, ?_, J3.out.1, J3.out.2.2, fun g h => by cases h⟩
          unfold ans
          rw [if_neg HCN.out]
          exact World.ownsRow_nil _ _ _ _)
    · obtain rfl : n = k := by omega
      have HE : Hid (T = (acc, 0, l')) := by
        have h1 := HLP.out.eq
        rw [List.drop_of_length_le (by rw [HLN.out]; exact Nat.le_refl _), HTT.out] at h1
        rw [h1]
        show (acc ++ [], _) = _
        rw [List.append_nil]
        rfl
      clear hk
      go_wp2
      go_ret2
      rw [HE.out]
      refine ⟨u6, F', rfl, ?_, HLP.out.j, HLP.out.go, HLP.out.bes⟩
      unfold ans
      rw [if_pos rfl]
      show World.ownsRow _ _ _ _ _ acc.length (acc.map Value.string)
      rw [HLP.out.kk.2.1]
      exact own_down HLP.out.own (Nat.le_refl _)
end Go.Proofs.YtglffbhcnafbnaaDoor.ta

namespace Go.Proofs.YtglffbhcnafbnaaDoor.tc
open Go.RowKit Go.PlainAid Go.Shelf
open Go.Proofs.YtglffbhcnafbnaaDoor.pl Go.Proofs.YtglffbhcnafbnaaDoor.pi Go.Proofs.YtglffbhcnafbnaaDoor.rf Go.Proofs.YtglffbhcnafbnaaDoor.pj Go.Proofs.YtglffbhcnafbnaaDoor.ca Go.Proofs.YtglffbhcnafbnaaDoor.cb Go.Proofs.YtglffbhcnafbnaaDoor.cp Go.Proofs.YtglffbhcnafbnaaDoor.cs Go.Proofs.YtglffbhcnafbnaaDoor.xc Go.Proofs.YtglffbhcnafbnaaDoor.ka Go.Proofs.YtglffbhcnafbnaaDoor.kb Go.Proofs.YtglffbhcnafbnaaDoor.ga Go.Proofs.YtglffbhcnafbnaaDoor.aa Go.Proofs.YtglffbhcnafbnaaDoor.ab Go.Proofs.YtglffbhcnafbnaaDoor.tb Go.Proofs.YtglffbhcnafbnaaDoor.ac Go.Proofs.YtglffbhcnafbnaaDoor.bc Go.Proofs.YtglffbhcnafbnaaDoor.bd Go.Proofs.YtglffbhcnafbnaaDoor.bh Go.Proofs.YtglffbhcnafbnaaDoor.bi Go.Proofs.YtglffbhcnafbnaaDoor.bj Go.Proofs.YtglffbhcnafbnaaDoor.sa Go.Proofs.YtglffbhcnafbnaaDoor.sb Go.Proofs.YtglffbhcnafbnaaDoor.sc Go.Proofs.YtglffbhcnafbnaaDoor.sd Go.Proofs.YtglffbhcnafbnaaDoor.se Go.Proofs.YtglffbhcnafbnaaDoor.sf Go.Proofs.YtglffbhcnafbnaaDoor.sg Go.Proofs.YtglffbhcnafbnaaDoor.sh Go.Proofs.YtglffbhcnafbnaaDoor.ta
set_option linter.unusedVariables false

theorem one_part (a : Nat × Nat) : ∀ u ∈ cl a, u.oneCell' = true := by
  intro u hu
  simp only [cl, List.mem_cons, List.not_mem_nil, or_false] at hu
  rcases hu with rfl | rfl <;> rfl
theorem part_row (w : World) (a b : Nat) : (w.alloc (.cells #[.int .i64 a, .int .i64 b] 97)).ownsRow w.heap.size 97 2 (.slice (some ⟨w.heap.size, 0, none⟩) 1 1) 1 (cls [(a, b)]) :=
  ⟨rfl, .inr ⟨w.heap.size, 1, #[.int .i64 a, .int .i64 b], rfl, Nat.le_refl _, heap_alloc_new _ _, Nat.le_refl _, by unfold maxLen; decide, rfl, rfl⟩⟩
def Parts (w : World) (ps : List (Nat × Nat)) (e : Ending) (w' : World) : Prop := (∃ u, e = .returned u ∧ w'.ownsRow w.heap.size 97 2 u ps.length (cls ps)) ∧ Below w.heap.size w w'
theorem subL_len (m : Nat) (n : Nat) : ∀ a b wh, b - a = n → a < b → (subL m a b wh).length ≤ b - a + 1 := by
  induction n using Nat.strongRecOn with
  | ind n ih =>
    intro a b wh hn hab
    by_cases hb : m = b
    · rw [subL_all hb]; split <;> simp
    · by_cases h : 2 ≤ b - a
      · have hh := half_lt h
        by_cases hm : m ≤ a + half (b - a)
        · rw [subL_low hb h hm, List.length_append]
          have := ih (half (b - a)) (by omega) a (a + half (b - a)) wh (by omega) (by omega)
          simp; omega
        · rw [subL_high hb h hm, List.length_append]
          have := ih (b - a - half (b - a)) (by omega) (a + half (b - a)) b false (by omega) (by omega)
          simp; omega
      · rw [subL, if_neg hb, dif_neg h]; simp
theorem subL_d (m : Nat) (d : Nat) : ∀ a b wh, b - a ≤ 2 ^ d → (subL m a b wh).length ≤ d + 1 := by
  induction d with
  | zero =>
    intro a b wh hd
    have : (2 : Nat) ^ 0 = 1 := rfl
    by_cases hb : m = b
    · rw [subL_all hb]; split <;> simp
    · rw [subL, if_neg hb, dif_neg (by omega)]; simp
  | succ d ih =>
    intro a b wh hd
    by_cases hb : m = b
    · rw [subL_all hb]; split <;> simp
    · by_cases h : 2 ≤ b - a
      · have hh := half_lt h
        obtain ⟨c, e, g1, g2⟩ := half_d h hd
        obtain rfl : c = d := by omega
        by_cases hm : m ≤ a + half (b - a)
        · rw [subL_low hb h hm, List.length_append]
          have := ih a (a + half (b - a)) wh (by omega)
          simp; omega
        · rw [subL_high hb h hm, List.length_append]
          have := ih (a + half (b - a)) b false (by omega)
          simp; omega
      · rw [subL, if_neg hb, dif_neg h]; simp
set_option maxHeartbeats 3200000 in
theorem subD (m : Nat) (n : Nat) : ∀ (a b : Nat) (wh : Bool) (w : World), b - a = n → a < m → m ≤ b → b ≤ 4611686018427387904 →
    Calls Tryd.prog 63 #[.int .i64 m, .int .i64 a, .int .i64 b, .bool wh] w (Parts w (subL m a b wh)) := by
  induction n using Nat.strongRecOn with
  | ind n ih =>
    intro a b wh w hn h1 h2 hb
    have IH : Hid (∀ (a' b' : Nat) (wh : Bool) (w : World), b' - a' < n → a' < m → m ≤ b' → b' ≤ 4611686018427387904 → Calls Tryd.prog 63 #[.int .i64 m, .int .i64 a', .int .i64 b', .bool wh] w (Parts w (subL m a' b' wh))) := fun a' b' wh w hl g1 g2 g3 => ih (b' - a') hl a' b' wh w rfl g1 g2 g3
    obtain ⟨i9, hi9', hz0, hz1, hz2⟩ := cs.info_parts hiP
    have HIN : Hid (_ ∧ _ ∧ _ ∧ _) := ⟨hi9', hz0, hz1, hz2⟩
    clear ih hi9' hz0 hz1 hz2
    by_cases hmb : m = b
    · have qb : ((m : Int) == (b : Int)) = true := by rw [beq_iff_eq]; omega
      have HL : Hid (subL m a b wh = if wh then [] else [(a, b)]) := subL_all hmb
      have PR : Hid (_ ∧ _) := ⟨part_row w a b, (Below.refl _ _).alloc (Nat.le_refl w.heap.size) (.cells #[.int .i64 a, .int .i64 b] 97)⟩
      rw [HL.out]
      clear hmb HL
      cases wh with
      | true =>
        go_enter Tryd.func63, Tryd.ntmps63
        go_wp2
        go_ret
        exact ⟨⟨_, rfl, World.ownsRow_nil _ _ _ _⟩, Below.refl _ _⟩
      | false =>
        go_enter Tryd.func63, Tryd.ntmps63
        go_wp2
        go_ret
        exact ⟨⟨_, rfl, PR.out.1⟩, PR.out.2⟩
    · have qb : ((m : Int) == (b : Int)) = false := by rw [beq_eq_false_iff_ne]; omega
      have h : 2 ≤ b - a := by omega
      have hh := half_lt h
      have SC : Hid (∀ w, Calls _ _ _ _ _) := fun w => splitD (b - a) h (by omega) w
      rw [show ((b - a : Nat) : Int) = (b : Int) - a by omega] at SC
      have hd := subL_d m 62
      by_cases hm : m ≤ a + half (b - a)
      · have HL : Hid (subL m a b wh = subL m a (a + half (b - a)) wh ++ [(a + half (b - a), b)]) := subL_low hmb h hm
        have I1 : Hid (∀ w, Calls _ _ _ _ _) := fun w => IH.out a (a + half (b - a)) wh w (by omega) h1 hm (by omega)
        have hlen := hd a (a + half (b - a)) wh (by rw [p62]; omega)
        rw [HL.out]
        obtain ⟨k, HK⟩ : ∃ k, Hid (half (b - a) = k) := ⟨_, rfl⟩
        rw [HK.out] at SC I1 hm hh hlen ⊢
        obtain ⟨ps, HPS⟩ : ∃ ps, Hid (subL m a (a + k) wh = ps) := ⟨_, rfl⟩
        rw [HPS.out] at I1 hlen ⊢
        have e1 : ((a + k : Nat) : Int) = (a : Int) + k := by omega
        rw [e1] at I1
        have hm' : (m : Int) ≤ (a : Int) + k := by omega
        have hw : IntKind.i64.wrap ((a : Int) + k) = (a : Int) + k := by rw [IntKind.wrap_i64]; omega
        clear hmb h hd HL hm
        go_enter Tryd.func63, Tryd.ntmps63
        go_wp2_with fail
        refine (SC.out _).mono ?_
        rintro e w1 ⟨rfl, hw1⟩
        subst hw1
        go_wp2_with fail
        refine (I1.out _).mono ?_
        rintro e w2 ⟨⟨u, rfl, ho⟩, hb2⟩
        have B2 : Hid (Below w1.heap.size w1 w2) := hb2
        have NB : Hid (Below w2.heap.size w2 (w2.alloc (.cells #[.int .i64 ((a : Int) + k), .int .i64 b] 97))) := (Below.refl _ _).alloc (Nat.le_refl _) _
        have OX : Hid ((w2.alloc (.cells #[.int .i64 ((a : Int) + k), .int .i64 b] 97)).ownsRow w1.heap.size 97 2 u ps.length (cls ps)) := own_later ho NB.out
        have NX : Hid (∀ (j : Nat) (u : Value), (cl (a + k, b))[j]? = some u → (w2.alloc (.cells #[.int .i64 ((a : Int) + k), .int .i64 b] 97)).cell? (Addr.add ⟨w2.heap.size, 0, none⟩ j) = some u) := by
          have := part_news w2 (a + k, b)
          rw [show (((a + k, b) : Nat × Nat).1 : Int) = (a : Int) + k from e1] at this
          exact this
        have SX : Hid (w1.heap.size ≤ (w2.alloc (.cells #[.int .i64 ((a : Int) + k), .int .i64 b] 97)).heap.size) := Nat.le_trans B2.out.size NB.out.size
        clear ho hb2
        go_wp2_with (at_builtin; refine wpList_append_own _ rfl _ _ 95 rfl w1.heap.size 97 i9 (.agg #[.int .i64 0, .int .i64 0]) 2 16 Tryd.underlying95 HIN.out.1 HIN.out.2.1 HIN.out.2.2.1 HIN.out.2.2.2 rfl (by decide) _ ps.length _ rfl OX.out ⟨w2.heap.size, 0, none⟩ 1 1 (cl (a + k, b)) rfl rfl NX.out (one_part _) (by unfold maxLen; omega) (by omega) SX.out ?_; intro p' w5 ho hg hnn; have HO5 : Hid (w5.ownsRow w1.heap.size 97 2 p' (ps.length + 1) (cls ps ++ cl (a + k, b))) := ho; have HB5 : Hid (Below w1.heap.size w1 w5) := Below.grown (over B2.out NB.out) hg SX.out (fun jj hj => (OX.out.lt _ hj).1); clear ho hg hnn)
        go_ret
        refine ⟨⟨_, rfl, ?_⟩, HB5.out⟩
        rw [List.length_append, cls_app]
        have e : cls [(a + k, b)] = cl (a + k, b) := by unfold cls; simp
        rw [e]
        exact HO5.out
      · have HL : Hid (subL m a b wh = subL m (a + half (b - a)) b false ++ [(a, a + half (b - a))]) := subL_high hmb h hm
        have I1 : Hid (∀ w, Calls _ _ _ _ _) := fun w => IH.out (a + half (b - a)) b false w (by omega) (by omega) h2 hb
        have hlen := hd (a + half (b - a)) b false (by rw [p62]; omega)
        rw [HL.out]
        obtain ⟨k, HK⟩ : ∃ k, Hid (half (b - a) = k) := ⟨_, rfl⟩
        rw [HK.out] at SC I1 hm hh hlen ⊢
        obtain ⟨ps, HPS⟩ : ∃ ps, Hid (subL m (a + k) b false = ps) := ⟨_, rfl⟩
        rw [HPS.out] at I1 hlen ⊢
        have e1 : ((a + k : Nat) : Int) = (a : Int) + k := by omega
        rw [e1] at I1
        have hm' : ¬ (m : Int) ≤ (a : Int) + k := by omega
        have hw : IntKind.i64.wrap ((a : Int) + k) = (a : Int) + k := by rw [IntKind.wrap_i64]; omega
        clear hmb h hd HL hm
        go_enter Tryd.func63, Tryd.ntmps63
        go_wp2_with fail
        refine (SC.out _).mono ?_
        rintro e w1 ⟨rfl, hw1⟩
        subst hw1
        go_wp2_with fail
        refine (I1.out _).mono ?_
        rintro e w2 ⟨⟨u, rfl, ho⟩, hb2⟩
        have B2 : Hid (Below w1.heap.size w1 w2) := hb2
        have NB : Hid (Below w2.heap.size w2 (w2.alloc (.cells #[.int .i64 a, .int .i64 ((a : Int) + k)] 97))) := (Below.refl _ _).alloc (Nat.le_refl _) _
        have OX : Hid ((w2.alloc (.cells #[.int .i64 a, .int .i64 ((a : Int) + k)] 97)).ownsRow w1.heap.size 97 2 u ps.length (cls ps)) := own_later ho NB.out
        have NX : Hid (∀ (j : Nat) (u : Value), (cl (a, a + k))[j]? = some u → (w2.alloc (.cells #[.int .i64 a, .int .i64 ((a : Int) + k)] 97)).cell? (Addr.add ⟨w2.heap.size, 0, none⟩ j) = some u) := by
          have := part_news w2 (a, a + k)
          rw [show (((a, a + k) : Nat × Nat).2 : Int) = (a : Int) + k from e1] at this
          exact this
        have SX : Hid (w1.heap.size ≤ (w2.alloc (.cells #[.int .i64 a, .int .i64 ((a : Int) + k)] 97)).heap.size) := Nat.le_trans B2.out.size NB.out.size
        clear ho hb2
        go_wp2_with (at_builtin; refine wpList_append_own _ rfl _ _ 95 rfl w1.heap.size 97 i9 (.agg #[.int .i64 0, .int .i64 0]) 2 16 Tryd.underlying95 HIN.out.1 HIN.out.2.1 HIN.out.2.2.1 HIN.out.2.2.2 rfl (by decide) _ ps.length _ rfl OX.out ⟨w2.heap.size, 0, none⟩ 1 1 (cl (a, a + k)) rfl rfl NX.out (one_part _) (by unfold maxLen; omega) (by omega) SX.out ?_; intro p' w5 ho hg hnn; have HO5 : Hid (w5.ownsRow w1.heap.size 97 2 p' (ps.length + 1) (cls ps ++ cl (a, a + k))) := ho; have HB5 : Hid (Below w1.heap.size w1 w5) := Below.grown (over B2.out NB.out) hg SX.out (fun jj hj => (OX.out.lt _ hj).1); clear ho hg hnn)
        go_ret
        refine ⟨⟨_, rfl, ?_⟩, HB5.out⟩
        rw [List.length_append, cls_app]
        have e : cls [(a, a + k)] = cl (a, a + k) := by unfold cls; simp
        rw [e]
        exact HO5.out
end Go.Proofs.YtglffbhcnafbnaaDoor.tc

namespace Go.Proofs.YtglffbhcnafbnaaDoor.td
open Go.RowKit Go.PlainAid Go.Shelf
open Go.Proofs.YtglffbhcnafbnaaDoor.pl Go.Proofs.YtglffbhcnafbnaaDoor.pi Go.Proofs.YtglffbhcnafbnaaDoor.rf Go.Proofs.YtglffbhcnafbnaaDoor.pj Go.Proofs.YtglffbhcnafbnaaDoor.ca Go.Proofs.YtglffbhcnafbnaaDoor.cb Go.Proofs.YtglffbhcnafbnaaDoor.cp Go.Proofs.YtglffbhcnafbnaaDoor.cs Go.Proofs.YtglffbhcnafbnaaDoor.xc Go.Proofs.YtglffbhcnafbnaaDoor.ka Go.Proofs.YtglffbhcnafbnaaDoor.kb Go.Proofs.YtglffbhcnafbnaaDoor.ga Go.Proofs.YtglffbhcnafbnaaDoor.aa Go.Proofs.YtglffbhcnafbnaaDoor.ab Go.Proofs.YtglffbhcnafbnaaDoor.tb Go.Proofs.YtglffbhcnafbnaaDoor.ac Go.Proofs.YtglffbhcnafbnaaDoor.bc Go.Proofs.YtglffbhcnafbnaaDoor.bd Go.Proofs.YtglffbhcnafbnaaDoor.bh Go.Proofs.YtglffbhcnafbnaaDoor.bi Go.Proofs.YtglffbhcnafbnaaDoor.bj Go.Proofs.YtglffbhcnafbnaaDoor.sa Go.Proofs.YtglffbhcnafbnaaDoor.sb Go.Proofs.YtglffbhcnafbnaaDoor.sc Go.Proofs.YtglffbhcnafbnaaDoor.sd Go.Proofs.YtglffbhcnafbnaaDoor.se Go.Proofs.YtglffbhcnafbnaaDoor.sf Go.Proofs.YtglffbhcnafbnaaDoor.sg Go.Proofs.YtglffbhcnafbnaaDoor.sh Go.Proofs.YtglffbhcnafbnaaDoor.ta Go.Proofs.YtglffbhcnafbnaaDoor.tc
set_option linter.unusedVariables false

theorem told_bound (s : Src) (lk : Nat → Nat → Nat) (n : Nat) (hn : n ≤ 4611686018427387904) (hl : (WL lk 0 n).length ≤ 1000000) : (told (okw s.wd) (fow s.wd) (askS s) [] (WL lk 0 n)).2.2.length ≤ 4294967296 ∧ (ans (told (okw s.wd) (fow s.wd) (askS s) [] (WL lk 0 n))).length ≤ 140737488355328 := by
  have := told_size (okw s.wd) (fow s.wd) (askS s) (WL lk 0 n) [] (fun p hp => by have := WL_in lk n 0 n rfl (Nat.zero_le _) p hp; omega)
  rw [List.length_nil] at this
  refine ⟨by omega, ?_⟩
  unfold ans
  split
  · omega
  · simp
theorem conA_bound (s : Src) (m n : Int) : (conA s.wd (askS s) s.sz m n []).2.2.length ≤ 4294967296 ∧ (ans (conA s.wd (askS s) s.sz m n [])).length ≤ 140737488355328 := by
  unfold conA
  split
  · rename_i h0
    obtain ⟨k1, k2, k3, k4⟩ := chk_ok h0
    split
    · exact ⟨by simp, by unfold ans; split <;> simp⟩
    · split
      · exact ⟨by simp, by unfold ans; split <;> simp⟩
      · refine told_bound s _ _ (by omega) ?_
        have := cons_len m.toNat 62 0 n.toNat (by rw [p62]; omega) (by omega) (by omega)
        omega
  · exact ⟨by simp, by unfold ans; split <;> simp⟩
-- the document's Consistency
set_option maxHeartbeats 1600000 in
theorem consS (s : Src) (sb : Nat) (lv : Value) (base : Nat) (hcd : i64 s.code) (m n : Int) (F : Nat → Prop) (l : List (Nat × Nat)) (w : World) (hN : l.length + 122 * 63 ≤ 4294967296) (hJ : SJ s sb lv base F l w) :
    Calls Tryd.prog 29 #[.pointer (some ⟨sb, 0, none⟩), .int .i64 m, .int .i64 n] w (Proved (SJ s sb lv base) F w (conA s.wd (askS s) s.sz m n l)) := by
  have GC : Hid (Calls _ _ _ _ _) := goesS s sb n w (SJ.cells hJ).2
  have RR : Hid (Rd 81 #[.pointer (some ⟨sb, 0, none⟩)] #[] (askS s) (SJ s sb lv base) 4294967296 (Dp lv)) := srcR s sb lv base hcd
  have HJ : Hid (SJ s sb lv base F l w) := hJ
  obtain ⟨A, HA⟩ : ∃ A, Hid (conA s.wd (askS s) s.sz m n l = A) := ⟨_, rfl⟩
  rw [HA.out]
  by_cases h0 : chk s.sz n = 0
  · obtain ⟨k1, k2, k3, k4⟩ := chk_ok h0
    rw [h0] at GC
    by_cases h1 : m < 0
    · have HE : Hid (A = ([], 80, l)) := by show _ = _; rw [← HA.out]; unfold conA; rw [if_pos h0, if_pos (.inl h1)]
      clear h0 hJ hN
      go_enter Tryd.func29, Tryd.ntmps29
      go_wp2_with fail
      refine GC.out.mono ?_
      rintro e w1 ⟨rfl, hw⟩
      subst hw
      go_wp2
      go_ret2
      exact refused HE.out HJ.out (Below.refl _ _)
    · by_cases h2 : n < m
      · have HE : Hid (A = ([], 80, l)) := by show _ = _; rw [← HA.out]; unfold conA; rw [if_pos h0, if_pos (.inr h2)]
        clear h0 hJ hN
        go_enter Tryd.func29, Tryd.ntmps29
        go_wp2_with fail
        refine GC.out.mono ?_
        rintro e w1 ⟨rfl, hw⟩
        subst hw
        go_wp2
        go_ret2
        exact refused HE.out HJ.out (Below.refl _ _)
      · by_cases h3 : m = 0
        · have HE : Hid (A = ([], 0, l)) := by show _ = _; rw [← HA.out]; unfold conA; rw [if_pos h0, if_neg (by omega), if_pos h3]
          have q3 : (m == 0) = true := by rw [beq_iff_eq]; exact h3
          clear h0 hJ hN h3
          go_enter Tryd.func29, Tryd.ntmps29
          go_wp2_with fail
          refine GC.out.mono ?_
          rintro e w1 ⟨rfl, hw⟩
          subst hw
          go_wp2
          go_ret2
          exact refused HE.out HJ.out (Below.refl _ _)
        · have q3 : (m == 0) = false := by rw [beq_eq_false_iff_ne]; exact h3
          obtain ⟨n', rfl⟩ := Int.eq_ofNat_of_zero_le k3
          obtain ⟨j, rfl⟩ := Int.eq_ofNat_of_zero_le (show 0 ≤ m by omega)
          have e1 : told (okw s.wd) (fow s.wd) (askS s) l (WL (lkC j) 0 n') = A := by
            have := HA.out
            unfold conA at this
            rw [if_pos h0, if_neg (by omega), if_neg h3, Int.toNat_natCast, Int.toNat_natCast] at this
            exact this
          by_cases h4 : j = n'
          · have q4 : ((j : Int) == (n' : Int)) = true := by rw [beq_iff_eq]; omega
            have HE : Hid (A = ([], 0, l)) := by
              show _ = _
              rw [← e1, WL_pass (by unfold lkC; rw [if_pos ⟨rfl, h4.symm⟩])]
              rfl
            clear h0 hJ hN h3 h4 e1
            go_enter Tryd.func29, Tryd.ntmps29
            go_wp2_with fail
            refine GC.out.mono ?_
            rintro e w1 ⟨rfl, hw⟩
            subst hw
            go_wp2
            go_ret2
            exact refused HE.out HJ.out (Below.refl _ _)
          · have q4 : ((j : Int) == (n' : Int)) = false := by rw [beq_eq_false_iff_ne]; omega
            have SC : Hid (Calls _ _ _ _ _) := subD j n' 0 n' true w (by omega) (by omega) (by omega) (by omega)
            have es : subL j 0 n' true = WL (lkC j) 0 n' := (cons_is j n' 0 n' (by omega) (by omega) (by omega)).symm
            rw [es, show ((0 : Nat) : Int) = 0 from rfl] at SC
            have hlen := cons_len j 62 0 n' (by rw [p62]; omega) (by omega) (by omega)
            have TC : Hid (∀ u w1, w1.ownsRow w.heap.size 97 2 u (WL (lkC j) 0 n').length (cls (WL (lkC j) 0 n')) → Below w.heap.size w w1 → Calls Tryd.prog 62 #[.pointer (some ⟨sb, 0, none⟩), u] w1 (Proved (SJ s sb lv base) F w1 A)) := by
              intro u w1 ho hb
              have := toldS s sb lv base hcd F l u w.heap.size (WL (lkC j) 0 n') w1 ho (fun g hg hF => by have h1 := (owns_lt ho hg).2; have := RR.out.within HJ.out _ hF; omega) (by omega) (fun p hp => by have := WL_in (lkC j) n' 0 n' rfl (Nat.zero_le _) p hp; omega) (by omega) (RR.out.later HJ.out hb)
              rw [e1] at this
              exact this
            clear h0 hJ hN h3 h4 e1 es hlen
            go_enter Tryd.func29, Tryd.ntmps29
            go_wp2_with fail
            refine GC.out.mono ?_
            rintro e w1 ⟨rfl, hw⟩
            subst hw
            go_wp2_with fail
            refine SC.out.mono ?_
            rintro e w2 ⟨⟨u, rfl, ho⟩, hb2⟩
            have TC1 : Hid (Calls _ _ _ _ _) := TC.out u w2 ho hb2
            have B2 : Hid (Below w1.heap.size w1 w2) := hb2
            clear ho hb2
            go_wp2_with fail
            refine TC1.out.mono ?_
            rintro e w3 ⟨u3, F3, rfl, ho3, hj3, hg3, hbe⟩
            have H3 : Hid (w3.ownsRow w1.heap.size 9 1 u3 (ans A).length ((ans A).map Value.string) ∧ SJ s sb lv base F3 A.2.2 w3 ∧ Goes F w1 F3 w3 ∧ Beside F3 u3) := ⟨own_down ho3 B2.out.size, hj3, (Goes.of_below B2.out).trans hg3, hbe⟩
            clear ho3 hj3 hg3 hbe
            go_wp2
            go_ret2
            exact ⟨u3, F3, rfl, H3.out.1, H3.out.2.1, H3.out.2.2.1, H3.out.2.2.2⟩
  · have HE : Hid (A = ([], chk s.sz n, l)) := by
      show _ = _
      rw [← HA.out]
      unfold conA
      rw [if_neg h0]
    obtain ⟨c, HCc⟩ : ∃ c, Hid (chk s.sz n = c) := ⟨_, rfl⟩
    rw [HCc.out] at GC HE h0
    have q0 : (c == 0) = false := by rw [beq_eq_false_iff_ne]; exact h0
    clear h0 hJ hN
    go_enter Tryd.func29, Tryd.ntmps29
    go_wp2_with fail
    refine GC.out.mono ?_
    rintro e w1 ⟨rfl, hw⟩
    subst hw
    go_wp2
    go_ret2
    exact refused HE.out HJ.out (Below.refl _ _)
end Go.Proofs.YtglffbhcnafbnaaDoor.td

namespace Go.Proofs.YtglffbhcnafbnaaDoor.te
open Go.RowKit Go.PlainAid Go.Shelf
open Go.Proofs.YtglffbhcnafbnaaDoor.pl Go.Proofs.YtglffbhcnafbnaaDoor.pi Go.Proofs.YtglffbhcnafbnaaDoor.rf Go.Proofs.YtglffbhcnafbnaaDoor.pj Go.Proofs.YtglffbhcnafbnaaDoor.ca Go.Proofs.YtglffbhcnafbnaaDoor.cb Go.Proofs.YtglffbhcnafbnaaDoor.cp Go.Proofs.YtglffbhcnafbnaaDoor.cs Go.Proofs.YtglffbhcnafbnaaDoor.xc Go.Proofs.YtglffbhcnafbnaaDoor.ka Go.Proofs.YtglffbhcnafbnaaDoor.kb Go.Proofs.YtglffbhcnafbnaaDoor.ga Go.Proofs.YtglffbhcnafbnaaDoor.aa Go.Proofs.YtglffbhcnafbnaaDoor.ab Go.Proofs.YtglffbhcnafbnaaDoor.tb Go.Proofs.YtglffbhcnafbnaaDoor.ac Go.Proofs.YtglffbhcnafbnaaDoor.bc Go.Proofs.YtglffbhcnafbnaaDoor.bd Go.Proofs.YtglffbhcnafbnaaDoor.bh Go.Proofs.YtglffbhcnafbnaaDoor.bi Go.Proofs.YtglffbhcnafbnaaDoor.sa Go.Proofs.YtglffbhcnafbnaaDoor.sb Go.Proofs.YtglffbhcnafbnaaDoor.sc Go.Proofs.YtglffbhcnafbnaaDoor.sd Go.Proofs.YtglffbhcnafbnaaDoor.se Go.Proofs.YtglffbhcnafbnaaDoor.sf Go.Proofs.YtglffbhcnafbnaaDoor.sg Go.Proofs.YtglffbhcnafbnaaDoor.sh Go.Proofs.YtglffbhcnafbnaaDoor.ta Go.Proofs.YtglffbhcnafbnaaDoor.tc
set_option linter.unusedVariables false

theorem told_bound (s : Src) (lk : Nat → Nat → Nat) (n : Nat) (hn : n ≤ 4611686018427387904) (hl : (WL lk 0 n).length ≤ 1000000) : (told (okw s.wd) (fow s.wd) (askS s) [] (WL lk 0 n)).2.2.length ≤ 4294967296 ∧ (ans (told (okw s.wd) (fow s.wd) (askS s) [] (WL lk 0 n))).length ≤ 140737488355328 := by
  have := told_size (okw s.wd) (fow s.wd) (askS s) (WL lk 0 n) [] (fun p hp => by have := WL_in lk n 0 n rfl (Nat.zero_le _) p hp; omega)
  rw [List.length_nil] at this
  refine ⟨by omega, ?_⟩
  unfold ans
  split
  · omega
  · simp
theorem incA_bound (s : Src) (i n : Int) : (incA s.wd (askS s) s.sz i n []).2.2.length ≤ 4294967296 ∧ (ans (incA s.wd (askS s) s.sz i n [])).length ≤ 140737488355328 := by
  unfold incA
  split
  · rename_i h0
    obtain ⟨k1, k2, k3, k4⟩ := chk_ok h0
    split
    · exact ⟨by simp, by unfold ans; split <;> simp⟩
    · refine told_bound s _ _ (by omega) ?_
      have := incl_len i.toNat 62 0 n.toNat (by rw [p62]; omega) (by omega) (by omega)
      omega
  · exact ⟨by simp, by unfold ans; split <;> simp⟩
theorem cls_one (a : Nat × Nat) : cls [a] = cl a := by unfold cls; simp
set_option maxHeartbeats 6400000 in
theorem inclS (s : Src) (sb : Nat) (lv : Value) (base : Nat) (hcd : i64 s.code) (i n : Int) (F : Nat → Prop) (l : List (Nat × Nat)) (w : World) (hN : l.length + 122 * 62 ≤ 4294967296) (hJ : SJ s sb lv base F l w) :
    Calls Tryd.prog 28 #[.pointer (some ⟨sb, 0, none⟩), .int .i64 i, .int .i64 n] w (Proved (SJ s sb lv base) F w (incA s.wd (askS s) s.sz i n l)) := by
  have GC : Hid (Calls _ _ _ _ _) := goesS s sb n w (SJ.cells hJ).2
  have RR : Hid (Rd 81 #[.pointer (some ⟨sb, 0, none⟩)] #[] (askS s) (SJ s sb lv base) 4294967296 (Dp lv)) := srcR s sb lv base hcd
  have HJ : Hid (SJ s sb lv base F l w) := hJ
  obtain ⟨A, HA⟩ : ∃ A, Hid (incA s.wd (askS s) s.sz i n l = A) := ⟨_, rfl⟩
  rw [HA.out]
  by_cases h0 : chk s.sz n = 0
  · obtain ⟨k1, k2, k3, k4⟩ := chk_ok h0
    rw [h0] at GC
    by_cases h1 : i < 0
    · have HE : Hid (A = ([], 81, l)) := by show _ = _; rw [← HA.out]; unfold incA; rw [if_pos h0, if_pos (.inl h1)]
      clear h0 hJ hN
      go_enter Tryd.func28, Tryd.ntmps28
      go_wp2_with fail
      refine GC.out.mono ?_
      rintro e w1 ⟨rfl, hw⟩
      subst hw
      go_wp2
      go_ret2
      exact refused HE.out HJ.out (Below.refl _ _)
    · by_cases h2 : n ≤ i
      · have HE : Hid (A = ([], 81, l)) := by show _ = _; rw [← HA.out]; unfold incA; rw [if_pos h0, if_pos (.inr h2)]
        clear h0 hJ hN
        go_enter Tryd.func28, Tryd.ntmps28
        go_wp2_with fail
        refine GC.out.mono ?_
        rintro e w1 ⟨rfl, hw⟩
        subst hw
        go_wp2
        go_ret2
        exact refused HE.out HJ.out (Below.refl _ _)
      · obtain ⟨n', rfl⟩ := Int.eq_ofNat_of_zero_le k3
        obtain ⟨j, rfl⟩ := Int.eq_ofNat_of_zero_le (show 0 ≤ i by omega)
        have e1 : told (okw s.wd) (fow s.wd) (askS s) l (WL (lkI j) 0 n') = A := by
          have := HA.out
          unfold incA at this
          rw [if_pos h0, if_neg (by omega), Int.toNat_natCast, Int.toNat_natCast] at this
          exact this
        have hlen := incl_len j 62 0 n' (by rw [p62]; omega) (by omega) (by omega)
        have ei := incl_is j n' 0 n' (by omega) (by omega) (by omega)
        have TC : Hid (∀ u B w1, w.heap.size ≤ B → w1.ownsRow B 97 2 u (WL (lkI j) 0 n').length (cls (WL (lkI j) 0 n')) → Below w.heap.size w w1 → Calls Tryd.prog 62 #[.pointer (some ⟨sb, 0, none⟩), u] w1 (Proved (SJ s sb lv base) F w1 A)) := by
          intro u B w1 hB ho hb
          have := toldS s sb lv base hcd F l u B (WL (lkI j) 0 n') w1 ho (fun g hg hF => by have h1 := (owns_lt ho hg).2; have := RR.out.within HJ.out _ hF; omega) (by omega) (fun p hp => by have := WL_in (lkI j) n' 0 n' rfl (Nat.zero_le _) p hp; omega) (by omega) (RR.out.later HJ.out hb)
          rw [e1] at this
          exact this
        obtain ⟨DD, HDD⟩ : ∃ D, Hid (dnI j 0 n' = D) := ⟨_, rfl⟩
        rw [ei, HDD.out] at TC hlen
        rw [List.length_reverse] at hlen
        obtain ⟨i9, hi9', hz0, hz1, hz2⟩ := cs.info_parts hiP
        have HIN : Hid (_ ∧ _ ∧ _ ∧ _) := ⟨hi9', hz0, hz1, hz2⟩
        have hjn : j < n' := by omega
        have d1 : decide ((j : Int) < 0) = false := decide_eq_false (by omega)
        have d2 : decide (n' ≤ j) = false := decide_eq_false (by omega)
        have d3 : decide ((n' : Int) ≤ j) = false := decide_eq_false (by omega)
        have hnn : n' ≤ 4611686018427387904 := by omega
        have SPL : Hid (∀ (m : Nat) (w : World), 2 ≤ m → m ≤ 4611686018427387904 → Calls _ _ _ _ _) := fun m w h1 h2 => splitD m h1 h2 w
        clear h0 hJ hN e1 ei hi9' hz0 hz1 hz2 k1 k2 k3 k4 h1 h2
        go_enter Tryd.func28, Tryd.ntmps28
        go_wp2_with fail
        refine GC.out.mono ?_
        rintro e w1 ⟨rfl, hw⟩
        subst hw
        go_wp2
        go_loopw [9, 10, 11] (fun d a b wr => ∃ (P Q : Nat) (D : List (Nat × Nat)), a = .int .i64 P ∧ b = .int .i64 Q ∧ P ≤ j ∧ j < Q ∧ Q ≤ n' ∧ Hid (wr.ownsRow w1.heap.size 97 2 d D.length (cls D) ∧ Below w1.heap.size w1 wr ∧ D ++ dnI j P Q = DD)) (fun _ a b _ => (intOf b - intOf a).toNat)
        case atStart => exact ⟨0, n', [], rfl, rfl, Nat.zero_le _, hjn, Nat.le_refl _, World.ownsRow_nil _ _ _ _, Below.refl _ _, by rw [List.nil_append, HDD.out]⟩
        case round =>
          obtain ⟨P, Q, D, rfl, rfl, hP, hQ, hQn, HD⟩ := hrel
          have hDl : D.length ≤ 62 := by
            have := congrArg List.length HD.out.2.2
            rw [List.length_append] at this
            omega
          by_cases h : 2 ≤ Q - P
          · have hh := half_lt h
            have SC : Hid (Calls _ _ _ _ _) := SPL.out (Q - P) wr h (by omega)
            rw [show ((Q - P : Nat) : Int) = (Q : Int) - P by omega] at SC
            have hc1 : (1 : Int) < (Q : Int) - P := by omega
            by_cases hi : j < P + half (Q - P)
            · have HEQ : Hid (D ++ [(P + half (Q - P), Q)] ++ dnI j P (P + half (Q - P)) = DD) := by
                have := HD.out.2.2
                rw [dnI_low h hi] at this
                show _ = _
                rw [← this, List.append_assoc]
                rfl
              obtain ⟨k, HK⟩ : ∃ k, Hid (half (Q - P) = k) := ⟨_, rfl⟩
              rw [HK.out] at SC hh hi HEQ
              have hi' : (j : Int) < (P : Int) + k := by omega
              have hw : IntKind.i64.wrap ((P : Int) + k) = (P : Int) + k := by rw [IntKind.wrap_i64]; omega
              have e1 : ((P + k : Nat) : Int) = (P : Int) + k := by omega
              have NB : Hid (Below wr.heap.size wr (wr.alloc (.cells #[.int .i64 ((P : Int) + k), .int .i64 Q] 97))) := (Below.refl _ _).alloc (Nat.le_refl _) _
              have OX : Hid ((wr.alloc (.cells #[.int .i64 ((P : Int) + k), .int .i64 Q] 97)).ownsRow w1.heap.size 97 2 u9 D.length (cls D)) := own_later HD.out.1 NB.out
              have NX : Hid (∀ (jj : Nat) (u : Value), (cl (P + k, Q))[jj]? = some u → (wr.alloc (.cells #[.int .i64 ((P : Int) + k), .int .i64 Q] 97)).cell? (Addr.add ⟨wr.heap.size, 0, none⟩ jj) = some u) := by
                have := part_news wr (P + k, Q)
                rw [show (((P + k, Q) : Nat × Nat).1 : Int) = (P : Int) + k from e1] at this
                exact this
              have SX : Hid (w1.heap.size ≤ (wr.alloc (.cells #[.int .i64 ((P : Int) + k), .int .i64 Q] 97)).heap.size) := Nat.le_trans HD.out.2.1.size NB.out.size
              clear h hi
              go_wp2_with fail
              refine SC.out.mono ?_
              rintro e w2 ⟨rfl, hw2⟩
              subst hw2
              go_wp2_with (at_builtin; refine wpList_append_own _ rfl _ _ 95 rfl w1.heap.size 97 i9 (.agg #[.int .i64 0, .int .i64 0]) 2 16 Tryd.underlying95 HIN.out.1 HIN.out.2.1 HIN.out.2.2.1 HIN.out.2.2.2 rfl (by decide) _ D.length _ rfl OX.out ⟨w2.heap.size, 0, none⟩ 1 1 (cl (P + k, Q)) rfl rfl NX.out (one_part _) (by unfold maxLen; omega) (by omega) SX.out ?_; intro p' w5 ho hg hnn'; have HO5 : Hid (w5.ownsRow w1.heap.size 97 2 p' (D.length + 1) (cls D ++ cl (P + k, Q))) := ho; have HB5 : Hid (Below w1.heap.size w1 w5) := Below.grown (over HD.out.2.1 NB.out) hg SX.out (fun jj hj => (OX.out.lt _ hj).1); clear ho hg hnn')
              go_roundw
              case rel => exact ⟨P, P + k, D ++ [(P + k, Q)], rfl, by rw [e1], hP, by omega, by omega, by rw [List.length_append, cls_app, cls_one]; exact HO5.out, HB5.out, HEQ.out⟩
              case measure => simp [intOf]; omega
            · have HEQ : Hid (D ++ [(P, P + half (Q - P))] ++ dnI j (P + half (Q - P)) Q = DD) := by
                have := HD.out.2.2
                rw [dnI_high h hi] at this
                show _ = _
                rw [← this, List.append_assoc]
                rfl
              obtain ⟨k, HK⟩ : ∃ k, Hid (half (Q - P) = k) := ⟨_, rfl⟩
              rw [HK.out] at SC hh hi HEQ
              have hi' : ¬ (j : Int) < (P : Int) + k := by omega
              have hw : IntKind.i64.wrap ((P : Int) + k) = (P : Int) + k := by rw [IntKind.wrap_i64]; omega
              have e1 : ((P + k : Nat) : Int) = (P : Int) + k := by omega
              have NB : Hid (Below wr.heap.size wr (wr.alloc (.cells #[.int .i64 P, .int .i64 ((P : Int) + k)] 97))) := (Below.refl _ _).alloc (Nat.le_refl _) _
              have OX : Hid ((wr.alloc (.cells #[.int .i64 P, .int .i64 ((P : Int) + k)] 97)).ownsRow w1.heap.size 97 2 u9 D.length (cls D)) := own_later HD.out.1 NB.out
              have NX : Hid (∀ (jj : Nat) (u : Value), (cl (P, P + k))[jj]? = some u → (wr.alloc (.cells #[.int .i64 P, .int .i64 ((P : Int) + k)] 97)).cell? (Addr.add ⟨wr.heap.size, 0, none⟩ jj) = some u) := by
                have := part_news wr (P, P + k)
                rw [show (((P, P + k) : Nat × Nat).2 : Int) = (P : Int) + k from e1] at this
                exact this
              have SX : Hid (w1.heap.size ≤ (wr.alloc (.cells #[.int .i64 P, .int .i64 ((P : Int) + k)] 97)).heap.size) := Nat.le_trans HD.out.2.1.size NB.out.size
              clear h hi
              go_wp2_with fail
              refine SC.out.mono ?_
              rintro e w2 ⟨rfl, hw2⟩
              subst hw2
              go_wp2_with (at_builtin; refine wpList_append_own _ rfl _ _ 95 rfl w1.heap.size 97 i9 (.agg #[.int .i64 0, .int .i64 0]) 2 16 Tryd.underlying95 HIN.out.1 HIN.out.2.1 HIN.out.2.2.1 HIN.out.2.2.2 rfl (by decide) _ D.length _ rfl OX.out ⟨w2.heap.size, 0, none⟩ 1 1 (cl (P, P + k)) rfl rfl NX.out (one_part _) (by unfold maxLen; omega) (by omega) SX.out ?_; intro p' w5 ho hg hnn'; have HO5 : Hid (w5.ownsRow w1.heap.size 97 2 p' (D.length + 1) (cls D ++ cl (P, P + k))) := ho; have HB5 : Hid (Below w1.heap.size w1 w5) := Below.grown (over HD.out.2.1 NB.out) hg SX.out (fun jj hj => (OX.out.lt _ hj).1); clear ho hg hnn')
              go_roundw
              case rel => exact ⟨P + k, Q, D ++ [(P, P + k)], by rw [e1], rfl, by omega, hQ, hQn, by rw [List.length_append, cls_app, cls_one]; exact HO5.out, HB5.out, HEQ.out⟩
              case measure => simp [intOf]; omega
          · have hc1 : ¬ (1 : Int) < (Q : Int) - P := by omega
            have HDX : Hid (D = DD) := by
              have := HD.out.2.2
              rw [dnI_one h, List.append_nil] at this
              exact this
            have hRD := own_readsP HD.out.1
            obtain ⟨da, dc, rfl⟩ := formA hRD
            have HRD : Hid (ReadsA wr (.slice da D.length dc) D) := hRD
            obtain ⟨dl, HDL⟩ : ∃ x, Hid (D.length = x) := ⟨_, rfl⟩
            rw [HDL.out] at HRD hDl
            obtain ⟨w6, HW6⟩ : ∃ w6, Hid (wr = w6) := ⟨_, rfl⟩
            have B6 : Hid (Below w1.heap.size w1 w6) := by rw [← HW6.out]; exact HD.out.2.1
            rw [HW6.out] at HRD
            clear h hRD
            rw [HDL.out]
            go_wp2
            rw [HW6.out]
            go_loopw [13, 14] (fun u i wr => ∃ (q : Nat) (c : Int), q ≤ dl ∧ i = .int .i64 c ∧ c = (q : Int) - 1 ∧ Hid (wr.ownsRow w6.heap.size 97 2 u (dl - q) (cls (D.drop q).reverse) ∧ Below w6.heap.size w6 wr)) (fun _ i _ => (intOf i + 1).toNat)
            case atStart => exact ⟨dl, _, Nat.le_refl _, rfl, rfl, by rw [Nat.sub_self, List.drop_of_length_le (by rw [HDL.out]; exact Nat.le_refl _)]; exact World.ownsRow_nil _ _ _ _, Below.refl _ _⟩
            case round =>
              obtain ⟨q, c, hq, rfl, hc, HU⟩ := hrel
              cases q with
              | zero =>
                obtain rfl : c = -1 := by omega
                clear hc
                have TC1 : Hid (Calls _ _ _ _ _) := TC.out u13 w6.heap.size wr B6.out.size (by rw [List.length_reverse, ← HDX.out, HDL.out]; have := HU.out.1; rw [Nat.sub_zero, List.drop_zero] at this; exact this) (over B6.out HU.out.2)
                have B7 : Hid (Below w1.heap.size w1 wr) := over B6.out HU.out.2
                go_wp2_with fail
                refine TC1.out.mono ?_
                rintro e w3 ⟨u3, F3, rfl, ho3, hj3, hg3, hbe⟩
                have H3 : Hid (w3.ownsRow w1.heap.size 9 1 u3 (ans A).length ((ans A).map Value.string) ∧ SJ s sb lv base F3 A.2.2 w3 ∧ Goes F w1 F3 w3 ∧ Beside F3 u3) := ⟨own_down ho3 B7.out.size, hj3, (Goes.of_below B7.out).trans hg3, hbe⟩
                clear ho3 hj3 hg3 hbe
                go_wp2
                go_ret2
                exact ⟨u3, F3, rfl, H3.out.1, H3.out.2.1, H3.out.2.2.1, H3.out.2.2.2⟩
              | succ q =>
                obtain rfl : c = (q : Int) := by omega
                clear hc
                have hqd : q < D.length := by rw [HDL.out]; omega
                have hq0 : (0 : Int) ≤ (q : Int) := by omega
                have hqn : (q : Int) < dl := by omega
                obtain ⟨x, hx⟩ : ∃ x, D[q]? = some x := ⟨_, List.getElem?_eq_getElem hqd⟩
                obtain ⟨b1, rfl, c1, c2⟩ := row_at (HRD.out.later HU.out.2) (k := x.1) (i := x.2) hx
                have HXX : Hid ((D.drop q).reverse = (D.drop (q + 1)).reverse ++ [x]) := by
                  have e := List.getElem?_eq_some_iff.1 hx
                  show _ = _
                  rw [List.drop_eq_getElem_cons hqd, e.2, List.reverse_cons]
                have NB : Hid (Below wr.heap.size wr (wr.alloc (.cells #[.int .i64 x.1, .int .i64 x.2] 97))) := (Below.refl _ _).alloc (Nat.le_refl _) _
                have OX : Hid ((wr.alloc (.cells #[.int .i64 x.1, .int .i64 x.2] 97)).ownsRow w6.heap.size 97 2 u13 (dl - (q + 1)) (cls (D.drop (q + 1)).reverse)) := own_later HU.out.1 NB.out
                have NX : Hid _ := part_news wr x
                have SX : Hid (w6.heap.size ≤ (wr.alloc (.cells #[.int .i64 x.1, .int .i64 x.2] 97)).heap.size) := Nat.le_trans HU.out.2.size NB.out.size
                clear hx
                go_wp2_with (at_builtin; refine wpList_append_own _ rfl _ _ 95 rfl w6.heap.size 97 i9 (.agg #[.int .i64 0, .int .i64 0]) 2 16 Tryd.underlying95 HIN.out.1 HIN.out.2.1 HIN.out.2.2.1 HIN.out.2.2.2 rfl (by decide) _ (dl - (q + 1)) _ rfl OX.out ⟨wr.heap.size, 0, none⟩ 1 1 (cl x) rfl rfl NX.out (one_part _) (by unfold maxLen; omega) (by omega) SX.out ?_; intro p' w5 ho hg hnn'; have HO5 : Hid (w5.ownsRow w6.heap.size 97 2 p' (dl - (q + 1) + 1) (cls (D.drop (q + 1)).reverse ++ cl x)) := ho; have HB5 : Hid (Below w6.heap.size w6 w5) := Below.grown (over HU.out.2 NB.out) hg SX.out (fun jj hj => (OX.out.lt _ hj).1); clear ho hg hnn')
                go_roundw
                case rel => exact ⟨q, _, by omega, rfl, by first | rfl | omega, by rw [HXX.out, cls_app, cls_one, show dl - q = dl - (q + 1) + 1 by omega]; exact HO5.out, HB5.out⟩
                case measure => simp [intOf]
  · have HE : Hid (A = ([], chk s.sz n, l)) := by
      show _ = _
      rw [← HA.out]
      unfold incA
      rw [if_neg h0]
    obtain ⟨c, HCc⟩ : ∃ c, Hid (chk s.sz n = c) := ⟨_, rfl⟩
    rw [HCc.out] at GC HE h0
    have q0 : (c == 0) = false := by rw [beq_eq_false_iff_ne]; exact h0
    clear h0 hJ hN
    go_enter Tryd.func28, Tryd.ntmps28
    go_wp2_with fail
    refine GC.out.mono ?_
    rintro e w1 ⟨rfl, hw⟩
    subst hw
    go_wp2
    go_ret2
    exact refused HE.out HJ.out (Below.refl _ _)
end Go.Proofs.YtglffbhcnafbnaaDoor.te
