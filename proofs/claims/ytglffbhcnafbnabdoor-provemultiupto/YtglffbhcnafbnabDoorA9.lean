import Derived.Test.YtglffbhcnafbnabDoorA8
import Derived.Laws.AppendOwnNone
import Derived.Test.YtglffbhcnafbnabDoorA3
import Derived.Laws.EntriesVeiled
import Derived.Test.YtglffbhcnafbnabDoorB1
namespace Go.Proofs.YtglffbhcnafbnabDoor.sg
open Go.RowKit Go.PlainAid Go.Shelf
open Go.Proofs.YtglffbhcnafbnabDoor.pl Go.Proofs.YtglffbhcnafbnabDoor.pi Go.Proofs.YtglffbhcnafbnabDoor.rf Go.Proofs.YtglffbhcnafbnabDoor.pj Go.Proofs.YtglffbhcnafbnabDoor.ca Go.Proofs.YtglffbhcnafbnabDoor.cb Go.Proofs.YtglffbhcnafbnabDoor.cp Go.Proofs.YtglffbhcnafbnabDoor.cs Go.Proofs.YtglffbhcnafbnabDoor.xc Go.Proofs.YtglffbhcnafbnabDoor.ka Go.Proofs.YtglffbhcnafbnabDoor.kb Go.Proofs.YtglffbhcnafbnabDoor.ga Go.Proofs.YtglffbhcnafbnabDoor.aa Go.Proofs.YtglffbhcnafbnabDoor.ab Go.Proofs.YtglffbhcnafbnabDoor.tb Go.Proofs.YtglffbhcnafbnabDoor.ac Go.Proofs.YtglffbhcnafbnabDoor.bc Go.Proofs.YtglffbhcnafbnabDoor.sa Go.Proofs.YtglffbhcnafbnabDoor.sb Go.Proofs.YtglffbhcnafbnabDoor.sc Go.Proofs.YtglffbhcnafbnabDoor.sd Go.Proofs.YtglffbhcnafbnabDoor.se Go.Proofs.YtglffbhcnafbnabDoor.sf
set_option linter.unusedVariables false

-- the source that a twin is
def tw (wd sz : Int) (ls : List ByteArray) (made : Bool) (fails code : Int) : Src := ⟨wd, if made then sz else ls.length, ls, made, fails, code⟩
structure Sized (ls : List ByteArray) : Prop where
  x : ∀ x ∈ ls, x.size ≤ 1048576
  k : ls.length ≤ 1048576
-- a source's block among others
theorem sj_new {s : Src} {sb : Nat} {lv : Value} {w : World} (hT : T7 w) (ho : So w sb s lv (.slice none 0 0)) (hsb : 6 ≤ sb) {B : Nat} (hB : sb < B) (hR : w.ownsRow B 9 1 lv s.ls.length (s.ls.map Value.string)) (hz : Sized s.ls) (hn : s.made = false → s.sz = s.ls.length) : Sj s sb lv w.heap.size (.slice none 0 0) (fun b => b = sb) [] w := by
  refine ⟨⟨hT, ho, own_readsT hR, hz.x, hn, ?_, hz.k⟩, World.ownsRow_nil _ _ _ _, fun b => ⟨fun h => .inl h, fun h => h.elim id (fun x => by cases x)⟩, ⟨hsb, ho.lt⟩, ?_, ⟨hT.t.t.big, Nat.le_refl _⟩⟩
  · intro a n c he
    rcases hR.2 with ⟨e, _⟩ | ⟨gg, cap, cur, e, _, _, _, hm, _⟩
    · rw [e] at he; injection he with _ _ e3; omega
    · rw [e] at he; injection he with _ _ e3; unfold maxLen at hm; omega
  · intro b off n c he
    have hg : lv.ownBlock = some b := by
      rcases hR.2 with ⟨e, _⟩ | ⟨gg, cap, cur, e, _⟩
      · rw [e] at he; cases he
      · rw [e] at he ⊢
        injection he with e1 e2 e3
        injection e1 with e1
        injection e1 with e1 e4
        subst e1
        rfl
    obtain ⟨h1, h2⟩ := owns_lt hR hg
    exact ⟨h1, fun e => by omega⟩
def Twinned (w : World) (s : Src) (e : Ending) (w' : World) : Prop := (∃ sb lv', e = .returned (.pointer (some ⟨sb, 0, none⟩)) ∧ w.heap.size ≤ sb ∧ (∀ b off n c, lv' = .slice (some ⟨b, off, none⟩) n c → w.heap.size ≤ b) ∧ Sj s sb lv' w'.heap.size (.slice none 0 0) (fun b => b = sb) [] w') ∧ Below w.heap.size w w'
set_option maxHeartbeats 3200000 in
set_option maxRecDepth 100000 in
theorem twinS (wd sz : Int) (lv : Value) (ls : List ByteArray) (made : Bool) (fails code : Int) (aa : Option Addr) (an ac : Nat) (w : World) (hT : T7 w) (hR : ReadsT w lv ls) (hno : ∀ k c, lv = .slice none k c → c = 0) (hz : Sized ls) :
    Calls Tryd.prog 7 #[.agg #[.int .i64 wd, .int .i64 sz, lv, .bool made, .int .i64 fails, .int .i64 code, .slice aa an ac]] w (Twinned w (tw wd sz ls made fails code)) := by
  obtain ⟨i9, hi, hz0, hz1, hz2⟩ := ka.info_parts ka.hi9
  have HIN : Hid (_ ∧ _ ∧ _ ∧ _) := ⟨hi, hz0, hz1, hz2⟩
  have HT : Hid (T7 w) := hT
  have HZ : Hid (Sized ls) := hz
  have HRD : Hid (ReadsT w lv ls) := hR
  obtain ⟨a, cap, rfl, hcap, hh⟩ := hR
  obtain ⟨n, HN⟩ : ∃ n, Hid (ls.length = n) := ⟨_, rfl⟩
  have HC0 : Hid (a = none → cap = 0) := fun h => hno ls.length cap (by rw [h])
  have hnk : n ≤ 1048576 := by have := hz.k; rw [HN.out] at this; exact this
  rw [HN.out] at hcap HRD ⊢
  obtain ⟨W2, HW2⟩ : ∃ W2, Hid ((w.alloc (.cells #[.int .i64 wd, .int .i64 sz, .slice a n cap, .bool made, .int .i64 fails, .int .i64 code, .slice aa an ac] 25)).alloc (.cells #[.int .i64 wd, .int .i64 sz, .slice a n cap, .bool made, .int .i64 fails, .int .i64 code, .slice none 0 0] 25) = W2) := ⟨_, rfl⟩
  have B2 : Hid (Below w.heap.size w W2) := by show Below _ _ _; rw [← HW2.out]; exact ((Below.refl _ _).alloc (Nat.le_refl _) _).alloc (by simp) _
  have s1 : (w.alloc (.cells #[.int .i64 wd, .int .i64 sz, .slice a n cap, .bool made, .int .i64 fails, .int .i64 code, .slice aa an ac] 25)).heap.size = w.heap.size + 1 := by simp
  have HY : Hid (W2.heap[w.heap.size + 1]? = some (.cells #[.int .i64 wd, .int .i64 sz, .slice a n cap, .bool made, .int .i64 fails, .int .i64 code, .slice none 0 0] 25 (0, 0))) := by
    show _ = _
    rw [← HW2.out, ← s1]
    exact heap_alloc_new _ _
  have S2 : Hid (W2.heap.size = w.heap.size + 2) := by show _ = _; rw [← HW2.out]; simp
  have X2 : W2.cell? ⟨w.heap.size, 2, none⟩ = some (.slice a n cap) := by
    rw [← HW2.out]
    refine (Below.cell (B := w.heap.size + 1) ((Below.refl _ _).alloc (by simp) _) (p := ⟨w.heap.size, 2, none⟩) (by show w.heap.size < w.heap.size + 1; omega)).trans ?_
    rw [World.cell?_alloc_at _ _ _ _ rfl]; rfl
  clear hh hi hz0 hz1 hz2 hno hT hz s1
  have RD2 : Hid (ReadsT W2 (.slice a n cap) ls) := HRD.out.later B2.out
  have TAIL : Hid (∀ (f' : Value) (w3 : World), w3.ownsRow W2.heap.size 9 1 f' n (ls.map Value.string) → Below W2.heap.size W2 w3 → ∃ fa fc, f' = .slice fa n fc ∧ w3.heap[w.heap.size + 1]? = some (.cells #[.int .i64 wd, .int .i64 sz, .slice a n cap, .bool made, .int .i64 fails, .int .i64 code, .slice none 0 0] 25 (0, 0))) := by
    intro f' w3 ho hb
    obtain ⟨fa, fc, rfl⟩ := own_formS ho
    exact ⟨fa, fc, rfl, (hb.block _ (by rw [S2.out]; omega)).trans HY.out⟩
  have FIN : Hid (∀ (f' : Value) (w3 : World) (s' : Int) (w5 : World), w3.ownsRow W2.heap.size 9 1 f' n (ls.map Value.string) → Below W2.heap.size W2 w3 → s' = (if made then sz else (n : Int)) → Kp (fun b => b = w.heap.size + 1) w3 w5 → w5.heap[w.heap.size + 1]? = some (.cells #[.int .i64 wd, .int .i64 s', f', .bool made, .int .i64 fails, .int .i64 code, .slice none 0 0] 25 (0, 0)) →
      Twinned w (tw wd sz ls made fails code) (.returned (.pointer (some ⟨w.heap.size + 1, 0, none⟩))) w5) := by
    intro f' w3 s' w5 ho hb hs hk h5
    have hb5 : Below w.heap.size w w5 := (B2.out.trans (hb.mono B2.out.size)).trans (hk.below (fun k hk => by omega) (Nat.le_trans B2.out.size hb.size))
    have ho5 : w5.ownsRow W2.heap.size 9 1 f' n (ls.map Value.string) := owns_keep ho (fun gg hg => hk.block gg (owns_lt ho hg).1 (fun e => by have := (owns_lt ho hg).2; rw [S2.out] at this; omega))
    refine ⟨⟨w.heap.size + 1, f', rfl, by omega, ?_, ?_⟩, hb5⟩
    · intro b off n' c he
      have hg : f'.ownBlock = some b := by rw [he]; rfl
      have := (owns_lt ho5 hg).2
      rw [S2.out] at this
      omega
    · have e1 : (tw wd sz ls made fails code).ls.length = n := HN.out
      refine sj_new (B := W2.heap.size) (HT.out.down hb5) ?_ (by have := HT.out.t.t.big; omega) (by rw [S2.out]; omega) (by rw [e1]; exact ho5) HZ.out ?_
      · show _ = _
        rw [h5]
        show some (Obj.cells #[.int .i64 wd, .int .i64 s', f', .bool made, .int .i64 fails, .int .i64 code, .slice none 0 0] 25 (0, 0)) = some (Obj.cells #[.int .i64 wd, .int .i64 (if made then sz else (ls.length : Int)), f', .bool made, .int .i64 fails, .int .i64 code, .slice none 0 0] 25 (0, 0))
        rw [hs, HN.out]
      · intro h
        have h' : made = false := h
        show (if made then sz else (ls.length : Int)) = ls.length
        rw [h']
        rfl
  cases a with
  | none =>
      obtain rfl : cap = 0 := HC0.out rfl
      have hn0 : n = 0 := by omega
      have hx0 : ls = [] := List.length_eq_zero_iff.1 (HN.out.trans hn0)
      have O0 : Hid (W2.ownsRow W2.heap.size 9 1 (.slice none 0 0) 0 []) := World.ownsRow_nil _ _ _ _
      have HO3 : Hid (W2.ownsRow W2.heap.size 9 1 (.slice none 0 0) n (ls.map Value.string)) := by show World.ownsRow _ _ _ _ _ _ _; rw [hx0, hn0]; exact O0.out
      have HB3 : Hid (Below W2.heap.size W2 W2) := Below.refl _ _
      have HY3 := HY.out
      have d2 : W2.cell? ⟨w.heap.size + 1, 2, none⟩ = some (.slice none n 0) := by rw [cell_of_row _ _ _ _ _ _ HY3]; rfl
      have f2 := frozen_of_row W2 (w.heap.size + 1) 2 _ _ HY3
      subst hn0
      clear HC0 hx0
      go_enter Tryd.func7, Tryd.ntmps7
      go_upto_region 3 with fail
      rw [HW2.out]
      go_upto_region 4 with (at_builtin; refine wpList_append_own_none rfl _ _ 22 rfl W2.heap.size 9 i9 1 Tryd.underlying22 HIN.out.1 _ 0 _ rfl O0.out rfl ?_)
      have H4 := heap_setCell_same W2 _ 2 _ _ (.slice none 0 0) HY3
      obtain ⟨W4, HW4⟩ : ∃ W4, Hid (W2.setCell ⟨w.heap.size + 1, 2, none⟩ (.slice none 0 0) = W4) := ⟨_, rfl⟩
      rw [HW4.out] at H4
      have H4' : W4.heap[w.heap.size + 1]? = some (.cells #[.int .i64 wd, .int .i64 sz, .slice none 0 0, .bool made, .int .i64 fails, .int .i64 code, .slice none 0 0] 25 (0, 0)) := H4
      have e3 : W4.cell? ⟨w.heap.size + 1, 3, none⟩ = some (.bool made) := by rw [cell_of_row _ _ _ _ _ _ H4']; rfl
      have e2 : W4.cell? ⟨w.heap.size + 1, 2, none⟩ = some (.slice none 0 0) := by rw [cell_of_row _ _ _ _ _ _ H4']; rfl
      have e1 : W4.cell? ⟨w.heap.size + 1, 1, none⟩ = some (.int .i64 sz) := by rw [cell_of_row _ _ _ _ _ _ H4']; rfl
      have f1 := frozen_of_row W4 (w.heap.size + 1) 1 _ _ H4'
      have K4 : Hid (Kp (fun b => b = w.heap.size + 1) W2 W4) := by show Kp _ _ _; rw [← HW4.out]; exact Kp.setCell (A := fun b => b = w.heap.size + 1) _ _ _ _ rfl
      have H5 := heap_setCell_same W4 _ 1 _ _ (.int .i64 0) H4'
      have HH4 : Hid (W4.heap[w.heap.size + 1]? = some (.cells #[.int .i64 wd, .int .i64 sz, .slice none 0 0, .bool made, .int .i64 fails, .int .i64 code, .slice none 0 0] 25 (0, 0))) := H4'
      have HH5 : Hid ((W4.setCell ⟨w.heap.size + 1, 1, none⟩ (.int .i64 0)).heap[w.heap.size + 1]? = some (.cells #[.int .i64 wd, .int .i64 0, .slice none 0 0, .bool made, .int .i64 fails, .int .i64 code, .slice none 0 0] 25 (0, 0))) := H5
      clear HY3 H4 H4' H5
      rw [HW4.out]
      cases made with
      | true =>
        go_wp2
        go_ret
        exact FIN.out _ W2 sz W4 HO3.out HB3.out rfl K4.out HH4.out
      | false =>
        go_wp2
        go_ret
        exact FIN.out _ W2 0 _ HO3.out HB3.out rfl (K4.out.trans (Kp.setCell (A := fun b => b = w.heap.size + 1) _ _ _ _ rfl)) HH5.out
  | some ad =>
      have HNW : Hid (∀ (j : Nat) (u : Value), (ls.map Value.string)[j]? = some u → W2.cell? (ad.add j) = some u) := reads_news RD2.out
      have HNL : Hid ((ls.map Value.string).length = n * 1) := by show _ = _; rw [List.length_map, HN.out, Nat.mul_one]
      have HN1 : Hid (∀ u ∈ ls.map Value.string, u.oneCell' = true) := by
        intro u hu
        obtain ⟨x, _, rfl⟩ := List.mem_map.1 hu
        rfl
      have O0 : Hid (W2.ownsRow W2.heap.size 9 1 (.slice none 0 0) 0 []) := World.ownsRow_nil _ _ _ _
      go_enter Tryd.func7, Tryd.ntmps7
      go_upto_region 3 with fail
      rw [HW2.out]
      go_upto_region 4 with (at_builtin; refine wpList_append_own _ rfl _ _ 22 rfl W2.heap.size 9 i9 (.string ByteArray.empty) 1 16 Tryd.underlying22 HIN.out.1 HIN.out.2.1 HIN.out.2.2.1 HIN.out.2.2.2 rfl (by decide) _ 0 _ rfl O0.out ad n cap (ls.map Value.string) rfl HNL.out HNW.out HN1.out (by unfold maxLen; omega) (by omega) (Nat.le_refl _) ?_; intro f' w3 ho hg hnn; have HO3 : Hid (w3.ownsRow W2.heap.size 9 1 f' n (ls.map Value.string)) := (by have := ho; rw [Nat.zero_add, List.nil_append] at this; exact this); have HB3 : Hid (Below W2.heap.size W2 w3) := Below.grown (Below.refl _ _) hg (Nat.le_refl _) (fun j hj => by cases hj); clear ho hg hnn; obtain ⟨fa, fc, rfl, HY3⟩ := TAIL.out f' w3 HO3.out HB3.out; have d2 : w3.cell? ⟨w.heap.size + 1, 2, none⟩ = some (.slice (some ad) n cap) := (by rw [cell_of_row _ _ _ _ _ _ HY3]; rfl); have f2 := frozen_of_row w3 (w.heap.size + 1) 2 _ _ HY3)
      have H4 := heap_setCell_same w3 _ 2 _ _ (.slice fa n fc) HY3
      obtain ⟨W4, HW4⟩ : ∃ W4, Hid (w3.setCell ⟨w.heap.size + 1, 2, none⟩ (.slice fa n fc) = W4) := ⟨_, rfl⟩
      rw [HW4.out] at H4
      have H4' : W4.heap[w.heap.size + 1]? = some (.cells #[.int .i64 wd, .int .i64 sz, .slice fa n fc, .bool made, .int .i64 fails, .int .i64 code, .slice none 0 0] 25 (0, 0)) := H4
      have e3 : W4.cell? ⟨w.heap.size + 1, 3, none⟩ = some (.bool made) := by rw [cell_of_row _ _ _ _ _ _ H4']; rfl
      have e2 : W4.cell? ⟨w.heap.size + 1, 2, none⟩ = some (.slice fa n fc) := by rw [cell_of_row _ _ _ _ _ _ H4']; rfl
      have e1 : W4.cell? ⟨w.heap.size + 1, 1, none⟩ = some (.int .i64 sz) := by rw [cell_of_row _ _ _ _ _ _ H4']; rfl
      have f1 := frozen_of_row W4 (w.heap.size + 1) 1 _ _ H4'
      have K4 : Hid (Kp (fun b => b = w.heap.size + 1) w3 W4) := by show Kp _ _ _; rw [← HW4.out]; exact Kp.setCell (A := fun b => b = w.heap.size + 1) _ _ _ _ rfl
      have H5 := heap_setCell_same W4 _ 1 _ _ (.int .i64 (n : Int)) H4'
      have HH4 : Hid (W4.heap[w.heap.size + 1]? = some (.cells #[.int .i64 wd, .int .i64 sz, .slice fa n fc, .bool made, .int .i64 fails, .int .i64 code, .slice none 0 0] 25 (0, 0))) := H4'
      have HH5 : Hid ((W4.setCell ⟨w.heap.size + 1, 1, none⟩ (.int .i64 n)).heap[w.heap.size + 1]? = some (.cells #[.int .i64 wd, .int .i64 n, .slice fa n fc, .bool made, .int .i64 fails, .int .i64 code, .slice none 0 0] 25 (0, 0))) := H5
      clear HY3 H4 H4' H5
      rw [HW4.out]
      cases made with
      | true =>
        go_wp2
        go_ret
        exact FIN.out _ w3 sz W4 HO3.out HB3.out rfl K4.out HH4.out
      | false =>
        go_wp2
        go_ret
        exact FIN.out _ w3 n _ HO3.out HB3.out rfl (K4.out.trans (Kp.setCell (A := fun b => b = w.heap.size + 1) _ _ _ _ rfl)) HH5.out
end Go.Proofs.YtglffbhcnafbnabDoor.sg

namespace Go.Proofs.YtglffbhcnafbnabDoor.sh
open Go.RowKit Go.PlainAid Go.Shelf
open Go.Proofs.YtglffbhcnafbnabDoor.pl Go.Proofs.YtglffbhcnafbnabDoor.pi Go.Proofs.YtglffbhcnafbnabDoor.rf Go.Proofs.YtglffbhcnafbnabDoor.pj Go.Proofs.YtglffbhcnafbnabDoor.ca Go.Proofs.YtglffbhcnafbnabDoor.cb Go.Proofs.YtglffbhcnafbnabDoor.cp Go.Proofs.YtglffbhcnafbnabDoor.cs Go.Proofs.YtglffbhcnafbnabDoor.xc Go.Proofs.YtglffbhcnafbnabDoor.ka Go.Proofs.YtglffbhcnafbnabDoor.kb Go.Proofs.YtglffbhcnafbnabDoor.ga Go.Proofs.YtglffbhcnafbnabDoor.aa Go.Proofs.YtglffbhcnafbnabDoor.ab Go.Proofs.YtglffbhcnafbnabDoor.tb Go.Proofs.YtglffbhcnafbnabDoor.ac Go.Proofs.YtglffbhcnafbnabDoor.bc Go.Proofs.YtglffbhcnafbnabDoor.bd Go.Proofs.YtglffbhcnafbnabDoor.bh Go.Proofs.YtglffbhcnafbnabDoor.sa Go.Proofs.YtglffbhcnafbnabDoor.sb Go.Proofs.YtglffbhcnafbnabDoor.sc Go.Proofs.YtglffbhcnafbnabDoor.sd Go.Proofs.YtglffbhcnafbnabDoor.se Go.Proofs.YtglffbhcnafbnabDoor.sf Go.Proofs.YtglffbhcnafbnabDoor.sg
set_option linter.unusedVariables false

theorem box_and_box (w : World) (x y z u : Value) (t t' : TypeId) : ((w.alloc (.cells #[x, y, z] t)).alloc (.cells #[u] t')).drew.cell? ⟨w.heap.size, 0, none⟩ = some x ∧ ((w.alloc (.cells #[x, y, z] t)).alloc (.cells #[u] t')).drew.cell? ⟨w.heap.size, 1, none⟩ = some y ∧ ((w.alloc (.cells #[x, y, z] t)).alloc (.cells #[u] t')).drew.cell? ⟨w.heap.size, 2, none⟩ = some z ∧ ((w.alloc (.cells #[x, y, z] t)).alloc (.cells #[u] t')).drew.cell? ⟨w.heap.size + 1, 0, none⟩ = some u := by
  have h3 := three_box w x y z t
  have s1 : (w.alloc (.cells #[x, y, z] t)).heap.size = w.heap.size + 1 := by simp
  have B : Below (w.alloc (.cells #[x, y, z] t)).heap.size (w.alloc (.cells #[x, y, z] t)) ((w.alloc (.cells #[x, y, z] t)).alloc (.cells #[u] t')).drew := below_dN ((Below.refl _ _).alloc (Nat.le_refl _) _) 1
  refine ⟨(B.cell (World.block_lt_of_cell? _ _ h3.1)).trans h3.1, (B.cell (World.block_lt_of_cell? _ _ h3.2.1)).trans h3.2.1, (B.cell (World.block_lt_of_cell? _ _ h3.2.2)).trans h3.2.2, ?_⟩
  show ((w.alloc (.cells #[x, y, z] t)).alloc (.cells #[u] t')).cell? _ = _
  rw [← s1, World.cell?_alloc_at _ _ _ _ rfl]; rfl
def Readers (s : Src) (sb : Nat) (lv : Value) (base : Nat) (w : World) (F : Nat → Prop) (l : List (Nat × Nat)) (e : Ending) (w' : World) : Prop := (∃ tb, e = .returned (.agg #[.int .i64 s.wd, .int .i64 s.sz, .func (.func 29) #[.pointer (some ⟨tb, 0, none⟩)] #[]]) ∧ TJ s sb lv base tb F l w') ∧ Below w.heap.size w w'
theorem readerS (s : Src) (sb : Nat) (lv : Value) (base : Nat) (F : Nat → Prop) (l : List (Nat × Nat)) (w : World) (hcd : i64 s.code) (hS : SJ s sb lv base F l w) :
    Calls Tryd.prog 9 #[.pointer (some ⟨sb, 0, none⟩)] w (Readers s sb lv base w F l) := by
  obtain ⟨k0, k1⟩ := SJ.cells hS
  have HJ : Hid (SJ s sb lv base F l w) := hS
  have HC : Hid (i64 s.code) := hcd
  unfold Readers
  obtain ⟨wd, HWD⟩ : ∃ x, Hid (s.wd = x) := ⟨_, rfl⟩
  obtain ⟨sz, HSZ⟩ : ∃ x, Hid (s.sz = x) := ⟨_, rfl⟩
  rw [HWD.out] at k0 ⊢
  rw [HSZ.out] at k1 ⊢
  obtain ⟨R0, HR0⟩ : ∃ R0, Hid (.cells #[.int .i64 0, .int .i64 0, .nilFunc] 33 = (R0 : Obj)) := ⟨_, rfl⟩
  have B0 : Hid (∀ o : Obj, Below w.heap.size w ((w.alloc o).alloc (.cells #[.pointer (some ⟨sb, 0, none⟩)] 67))) := fun o => ((Below.refl _ _).alloc (Nat.le_refl _) _).alloc (by simp) _
  have j0 := ((B0.out (.cells #[.int .i64 0, .int .i64 0, .nilFunc] 33)).cell (World.block_lt_of_cell? _ _ k0)).trans k0
  have j1 := ((B0.out (.cells #[.int .i64 0, .int .i64 0, .nilFunc] 33)).cell (World.block_lt_of_cell? _ _ k1)).trans k1
  have G : Hid (_ ∧ _ ∧ _ ∧ _) := box_and_box w (.int .i64 wd) (.int .i64 sz) (.func (.func 29) #[.pointer (some ⟨w.heap.size + 1, 0, none⟩)] #[]) (.pointer (some ⟨sb, 0, none⟩)) 33 67
  have B1 : Hid (Below w.heap.size w ((w.alloc (.cells #[.int .i64 wd, .int .i64 sz, .func (.func 29) #[.pointer (some ⟨w.heap.size + 1, 0, none⟩)] #[]] 33)).alloc (.cells #[.pointer (some ⟨sb, 0, none⟩)] 67)).drew) := below_dN (B0.out _) 1
  clear hS hcd
  go_enter Tryd.func9, Tryd.ntmps9
  go_wp2
  go_region
  all_goals (
    go_wp2
    (try simp only [Exit.inBlock, Exit.then])
    refine bodyPost_ret (by simp [results, Tryd.results9, go_sem, G.out.1, G.out.2.1, G.out.2.2.1]; try rfl) rfl ?_
    exact ⟨⟨w.heap.size + 1, rfl, (srcR s sb lv base HC.out).later HJ.out B1.out, G.out.2.2.2, fun hF => by have := (srcR s sb lv base HC.out).within HJ.out _ hF; omega⟩, B1.out⟩)
theorem goesS (s : Src) (sb : Nat) (n : Int) (w : World) (hc : w.cell? ⟨sb, 1, none⟩ = some (.int .i64 s.sz)) : Calls Tryd.prog 30 #[.pointer (some ⟨sb, 0, none⟩), .int .i64 n] w fun e w' => e = .returned (.int .i64 (chk s.sz n)) ∧ w' = w := by
  generalize s.sz = sz at *
  by_cases h1 : sz < 0
  · have HE : Hid (chk sz n = 10) := by show _ = _; unfold chk; rw [if_pos (.inl h1)]
    rw [HE.out]
    go_enter Tryd.func30, Tryd.ntmps30
    go_wp2
    go_ret
    exact ⟨rfl, rfl⟩
  · by_cases h2 : 4611686018427387904 < sz
    · have HE : Hid (chk sz n = 10) := by show _ = _; unfold chk; rw [if_pos (.inr h2)]
      rw [HE.out]
      go_enter Tryd.func30, Tryd.ntmps30
      go_wp2
      go_ret
      exact ⟨rfl, rfl⟩
    · by_cases h3 : n < 0
      · have HE : Hid (chk sz n = 80) := by show _ = _; unfold chk; rw [if_neg (by omega), if_pos (.inl h3)]
        rw [HE.out]
        go_enter Tryd.func30, Tryd.ntmps30
        go_wp2
        go_ret
        exact ⟨rfl, rfl⟩
      · by_cases h4 : sz < n
        · have HE : Hid (chk sz n = 80) := by show _ = _; unfold chk; rw [if_neg (by omega), if_pos (.inr h4)]
          rw [HE.out]
          go_enter Tryd.func30, Tryd.ntmps30
          go_wp2
          go_ret
          exact ⟨rfl, rfl⟩
        · have HE : Hid (chk sz n = 0) := by show _ = _; unfold chk; rw [if_neg (by omega), if_neg (by omega)]
          rw [HE.out]
          go_enter Tryd.func30, Tryd.ntmps30
          go_wp2
          go_ret
          exact ⟨rfl, rfl⟩
-- two sources that were asked for the same
theorem eqA (a b x y : Int) (w : World) : (binOp .neq 72 (.agg #[.int .i64 a, .int .i64 b]) (.agg #[.int .i64 x, .int .i64 y])).run Tryd.prog w = .ok (.bool (!(a == x && b == y))) w := by
  by_cases h1 : a = x <;> by_cases h2 : b = y <;> simp [go_sem, h1, h2]
set_option maxHeartbeats 1600000 in
theorem askedS (s : Src) (sb tb : Nat) (lv lv' : Value) (base base' : Nat) (F F' : Nat → Prop) (l : List (Nat × Nat)) (w : World) (hS : SJ s sb lv base F l w) (hS' : SJ s tb lv' base' F' l w) (hl : l.length ≤ 4294967296) :
    Calls Tryd.prog 13 #[.pointer (some ⟨sb, 0, none⟩), .pointer (some ⟨tb, 0, none⟩)] w fun e w' => e = .returned (.bool true) ∧ ∃ m, w' = w.drewN m := by
  obtain ⟨av, h1⟩ := hS
  obtain ⟨av', h2⟩ := hS'
  have r1 := own_readsA h1.own
  have r2 := own_readsA h2.own
  have k1 := h1.q.o.cells.2.2.2.2.2.2
  have k2 := h2.q.o.cells.2.2.2.2.2.2
  obtain ⟨a1, c1, rfl⟩ := formA r1
  obtain ⟨a2, c2, rfl⟩ := formA r2
  have HR1 : Hid (ReadsA w (.slice a1 l.length c1) l) := r1
  have HR2 : Hid (ReadsA w (.slice a2 l.length c2) l) := r2
  obtain ⟨n, HN⟩ : ∃ n, Hid (l.length = n) := ⟨_, rfl⟩
  rw [HN.out] at HR1 HR2 k1 k2 hl
  have qn : ((n : Int) == (n : Int)) = true := beq_self_eq_true _
  clear r1 r2 h1 h2
  go_enter Tryd.func13, Tryd.ntmps13
  go_wp2_with fail
  go_quiet (fail)
  go_wp2
  go_loopw [5] (fun i wr => ∃ k m : Nat, k ≤ n ∧ i = .int .i64 k ∧ wr = w.drewN m) (fun i _ => (n - intOf i).toNat)
  case atStart => exact ⟨0, _, by omega, rfl, rfl⟩
  case round =>
    obtain ⟨k, m, hk, rfl, rfl⟩ := hrel
    by_cases hlt : k < n
    · have hlt' : (k : Int) < n := by omega
      have hkl : k < l.length := by rw [HN.out]; exact hlt
      obtain ⟨x, hx⟩ : ∃ x, l[k]? = some x := ⟨_, List.getElem?_eq_getElem hkl⟩
      obtain ⟨b1, rfl, c11, c12⟩ := row_at HR1.out (k := x.1) (i := x.2) hx
      obtain ⟨b2, rfl, c21, c22⟩ := row_at HR2.out (k := x.1) (i := x.2) hx
      have qq := fun w => eqA (x.1 : Int) (x.2 : Int) (x.1 : Int) (x.2 : Int) w
      simp only [beq_self_eq_true, Bool.and_self, Bool.not_true] at qq
      clear hx
      go_wp2_with fail
      go_quiet (fail)
      go_wp2
      go_roundw
      case rel => exact ⟨k + 1, _, by omega, by go_num, rfl⟩
      case measure => simp [intOf]; omega
    · have hlt' : ¬ (k : Int) < n := by omega
      go_wp2
      go_ret
      exact ⟨rfl, _, rfl⟩
end Go.Proofs.YtglffbhcnafbnabDoor.sh

namespace Go.Proofs.YtglffbhcnafbnabDoor.sp
open Go.RowKit Go.PlainAid Go.Shelf
open Go.Proofs.YtglffbhcnafbnabDoor.pl Go.Proofs.YtglffbhcnafbnabDoor.pi Go.Proofs.YtglffbhcnafbnabDoor.rf Go.Proofs.YtglffbhcnafbnabDoor.pj Go.Proofs.YtglffbhcnafbnabDoor.ca Go.Proofs.YtglffbhcnafbnabDoor.cb Go.Proofs.YtglffbhcnafbnabDoor.cp Go.Proofs.YtglffbhcnafbnabDoor.cs Go.Proofs.YtglffbhcnafbnabDoor.xc Go.Proofs.YtglffbhcnafbnabDoor.ka Go.Proofs.YtglffbhcnafbnabDoor.kb Go.Proofs.YtglffbhcnafbnabDoor.ga Go.Proofs.YtglffbhcnafbnabDoor.aa Go.Proofs.YtglffbhcnafbnabDoor.ab Go.Proofs.YtglffbhcnafbnabDoor.tb Go.Proofs.YtglffbhcnafbnabDoor.ac Go.Proofs.YtglffbhcnafbnabDoor.bc Go.Proofs.YtglffbhcnafbnabDoor.bd Go.Proofs.YtglffbhcnafbnabDoor.bh Go.Proofs.YtglffbhcnafbnabDoor.sa Go.Proofs.YtglffbhcnafbnabDoor.sb Go.Proofs.YtglffbhcnafbnabDoor.sc Go.Proofs.YtglffbhcnafbnabDoor.sd Go.Proofs.YtglffbhcnafbnabDoor.se Go.Proofs.YtglffbhcnafbnabDoor.sf Go.Proofs.YtglffbhcnafbnabDoor.sg Go.Proofs.YtglffbhcnafbnabDoor.sh
set_option linter.unusedVariables false

-- two sources side by side
structure Two (s : Src) (sb : Nat) (lv : Value) (base : Nat) (sb' : Nat) (lv' : Value) (base' : Nat) (F F' : Nat → Prop) (l l' : List (Nat × Nat)) (w : World) : Prop where
  a : SJ s sb lv base F l w
  b : SJ s sb' lv' base' F' l' w
  ab : ∀ b, F b → ¬ F' b
  da : ∀ b, F' b → ¬ Dp lv b
  db : ∀ b, F b → ¬ Dp lv' b
theorem Two.later {s : Src} {sb : Nat} {lv : Value} {base : Nat} {sb' : Nat} {lv' : Value} {base' : Nat} {F F' : Nat → Prop} {l l' : List (Nat × Nat)} {w w' : World} (hcd : i64 s.code) (h : Two s sb lv base sb' lv' base' F F' l l' w) (hb : Below w.heap.size w w') : Two s sb lv base sb' lv' base' F F' l l' w' :=
  ⟨(srcR s sb lv base hcd).later h.a hb, (srcR s sb' lv' base' hcd).later h.b hb, h.ab, h.da, h.db⟩
theorem Two.left {s : Src} {sb : Nat} {lv : Value} {base : Nat} {sb' : Nat} {lv' : Value} {base' : Nat} {F F' F2 : Nat → Prop} {l l' l2 : List (Nat × Nat)} {w w' : World} (hcd : i64 s.code) (h : Two s sb lv base sb' lv' base' F F' l l' w) (hg : Goes F w F2 w') (hj : SJ s sb lv base F2 l2 w') : Two s sb lv base sb' lv' base' F2 F' l2 l' w' := by
  refine ⟨hj, (srcR s sb' lv' base' hcd).keep h.b hg.1 (fun b hb => ⟨h.ab b hb, h.db b hb⟩), fun b hb hf => ?_, h.da, fun b hb hd => ?_⟩
  · rcases hg.2 b hb with g | g
    · exact h.ab b g hf
    · have := (srcR s sb' lv' base' hcd).within h.b b hf; omega
  · rcases hg.2 b hb with g | g
    · exact h.db b g hd
    · have := (srcR s sb' lv' base' hcd).big h.b b hd; omega
theorem Two.right {s : Src} {sb : Nat} {lv : Value} {base : Nat} {sb' : Nat} {lv' : Value} {base' : Nat} {F F' F2 : Nat → Prop} {l l' l2 : List (Nat × Nat)} {w w' : World} (hcd : i64 s.code) (h : Two s sb lv base sb' lv' base' F F' l l' w) (hg : Goes F' w F2 w') (hj : SJ s sb' lv' base' F2 l2 w') : Two s sb lv base sb' lv' base' F F2 l l2 w' := by
  refine ⟨(srcR s sb lv base hcd).keep h.a hg.1 (fun b hb => ⟨fun hf => h.ab b hf hb, h.da b hb⟩), hj, fun b hf hb => ?_, fun b hb hd => ?_, h.db⟩
  · rcases hg.2 b hb with g | g
    · exact h.ab b hf g
    · have := (srcR s sb lv base hcd).within h.a b hf; omega
  · rcases hg.2 b hb with g | g
    · exact h.da b g hd
    · have := (srcR s sb lv base hcd).big h.a b hd; omega
-- the two twins
theorem two_of {s : Src} {w w1 w2 : World} {sb sb' : Nat} {lv lv' : Value} (hcd : i64 s.code) (hlt : w1.heap.size ≤ sb') (hlv : ∀ b off n c, lv' = .slice (some ⟨b, off, none⟩) n c → w1.heap.size ≤ b)
    (h1 : Sj s sb lv w1.heap.size (.slice none 0 0) (fun b => b = sb) [] w1) (h2 : Sj s sb' lv' w2.heap.size (.slice none 0 0) (fun b => b = sb') [] w2) (hb : Below w1.heap.size w1 w2) : Two s sb lv w1.heap.size sb' lv' w2.heap.size (fun b => b = sb) (fun b => b = sb') [] [] w2 := by
  have l1 := h1.q.o.lt
  refine ⟨(srcR s sb lv _ hcd).later ⟨_, h1⟩ hb, ⟨_, h2⟩, fun b e1 e2 => by omega, fun b e1 hd => ?_, fun b e1 hd => ?_⟩
  · have := h1.dep b hd; omega
  · subst e1
    rcases hd with hd | ⟨off, n, c, he⟩
    · have := h1.sbq; omega
    · have := hlv _ off n c he; omega
-- over a world w0: nothing that was there has turned
def Over (w0 : World) (F F' : Nat → Prop) (w : World) : Prop := Below w0.heap.size w0 w ∧ (∀ b, F b → w0.heap.size ≤ b) ∧ (∀ b, F' b → w0.heap.size ≤ b)
theorem Over.later {w0 w w' : World} {F F' : Nat → Prop} (h : Over w0 F F' w) (hb : Below w.heap.size w w') : Over w0 F F' w' := ⟨over h.1 hb, h.2⟩
theorem Over.left {w0 w w' : World} {F F' F2 : Nat → Prop} (h : Over w0 F F' w) (hg : Goes F w F2 w') : Over w0 F2 F' w' :=
  ⟨h.1.trans (hg.1.below h.2.1 h.1.size), fun b hb => (hg.2 b hb).elim (h.2.1 b) (fun g => Nat.le_trans h.1.size g), h.2.2⟩
theorem Over.right {w0 w w' : World} {F F' F2 : Nat → Prop} (h : Over w0 F F' w) (hg : Goes F' w F2 w') : Over w0 F F2 w' :=
  ⟨h.1.trans (hg.1.below h.2.2 h.1.size), h.2.1, fun b hb => (hg.2 b hb).elim (h.2.2 b) (fun g => Nat.le_trans h.1.size g)⟩
end Go.Proofs.YtglffbhcnafbnabDoor.sp

namespace Go.Proofs.YtglffbhcnafbnabDoor.ws
open Go.RowKit Go.PlainAid
open Go.Proofs.YtglffbhcnafbnabDoor.cp Go.Proofs.YtglffbhcnafbnabDoor.cv Go.Proofs.YtglffbhcnafbnabDoor.ka Go.Proofs.YtglffbhcnafbnabDoor.sa Go.Proofs.YtglffbhcnafbnabDoor.sg
set_option linter.unusedVariables false

theorem le_sum (xs : List ByteArray) : ∀ x ∈ xs, x.size ≤ (xs.map ByteArray.size).sum := by
  induction xs with
  | nil => intro x hx; cases hx
  | cons y ys ih =>
    intro x hx
    rw [List.map_cons, List.sum_cons]
    rcases List.mem_cons.1 hx with rfl | hx
    · omega
    · have := ih x hx; omega
theorem sized_of {xs : List ByteArray} (h : (xs.map ByteArray.size).sum + xs.length ≤ 1048576) : Sized xs := by
  refine ⟨fun x hx => ?_, by omega⟩
  have := le_sum xs x hx
  omega
end Go.Proofs.YtglffbhcnafbnabDoor.ws

namespace Go.Proofs.YtglffbhcnafbnabDoor.ta
open Go.RowKit Go.PlainAid Go.Shelf
open Go.Proofs.YtglffbhcnafbnabDoor.pl Go.Proofs.YtglffbhcnafbnabDoor.pi Go.Proofs.YtglffbhcnafbnabDoor.rf Go.Proofs.YtglffbhcnafbnabDoor.pj Go.Proofs.YtglffbhcnafbnabDoor.ca Go.Proofs.YtglffbhcnafbnabDoor.cb Go.Proofs.YtglffbhcnafbnabDoor.cp Go.Proofs.YtglffbhcnafbnabDoor.cs Go.Proofs.YtglffbhcnafbnabDoor.xc Go.Proofs.YtglffbhcnafbnabDoor.ka Go.Proofs.YtglffbhcnafbnabDoor.kb Go.Proofs.YtglffbhcnafbnabDoor.ga Go.Proofs.YtglffbhcnafbnabDoor.aa Go.Proofs.YtglffbhcnafbnabDoor.ab Go.Proofs.YtglffbhcnafbnabDoor.tb Go.Proofs.YtglffbhcnafbnabDoor.ac Go.Proofs.YtglffbhcnafbnabDoor.bc Go.Proofs.YtglffbhcnafbnabDoor.bd Go.Proofs.YtglffbhcnafbnabDoor.bh Go.Proofs.YtglffbhcnafbnabDoor.sa Go.Proofs.YtglffbhcnafbnabDoor.sb Go.Proofs.YtglffbhcnafbnabDoor.sc Go.Proofs.YtglffbhcnafbnabDoor.sd Go.Proofs.YtglffbhcnafbnabDoor.se Go.Proofs.YtglffbhcnafbnabDoor.sf Go.Proofs.YtglffbhcnafbnabDoor.sg Go.Proofs.YtglffbhcnafbnabDoor.sh
set_option linter.unusedVariables false

theorem hiP : (Tryd.prog.info? 90).map (fun i => (i.zero, i.size, i.bytes)) = some (some (.agg #[.int .i64 0, .int .i64 0]), 2, 16) := by kernel_rfl
theorem part_news (W : World) (a : Nat × Nat) : ∀ (j : Nat) (u : Value), (cl a)[j]? = some u → (W.alloc (.cells #[.int .i64 a.1, .int .i64 a.2] 90)).cell? (Addr.add ⟨W.heap.size, 0, none⟩ j) = some u := two_cells W (.int .i64 a.1) (.int .i64 a.2) 90
theorem own_readsP {w : World} {B n : Nat} {v : Value} {L : List (Nat × Nat)} (h : w.ownsRow B 90 2 v n (cls L)) : ReadsA w v L := by
  have hn : L.length = n := by have := h.1; rw [cls_len] at this; omega
  subst hn
  rcases h.2 with ⟨rfl, h0⟩ | ⟨g, cap, cur, rfl, _, hg, _⟩
  · refine ⟨none, 0, by rw [h0], .inl h0⟩
  · refine ⟨_, cap, rfl, .inr ⟨g, rfl, fun i x hx => ?_⟩⟩
    have hi := (List.getElem?_eq_some_iff.1 hx).1
    obtain ⟨c1, c2⟩ := cls_get L i x hx
    exact ⟨(h.cellAt (i * 2) (by omega)).trans c1, (h.cellAt (i * 2 + 1) (by omega)).trans c2⟩
-- the document's split
set_option maxHeartbeats 800000 in
theorem splitD (n : Nat) (h : 2 ≤ n) (hn : n ≤ 4611686018427387904) (w : World) : Calls Tryd.prog 50 #[.int .i64 n] w fun e w' => e = .returned (.int .i64 (half n : Nat)) ∧ w' = w := by
  obtain ⟨i, he, g1, g2⟩ := half_is h
  rw [p2s] at g2
  have HE : Hid (half n = 2 ^ i) := he
  rw [he]
  obtain ⟨t, HTT⟩ : ∃ t : Nat, Hid ((2 : Nat) ^ i = t) := ⟨2 ^ i, rfl⟩
  rw [HTT.out] at g1 g2 ⊢
  clear he
  go_enter Tryd.func50, Tryd.ntmps50
  go_wp2
  go_loopw [3] (fun k wr => ∃ j q : Nat, j ≤ i ∧ Hid (q = 2 ^ j) ∧ k = .int .i64 q ∧ 1 ≤ q ∧ q ≤ t ∧ wr = w) (fun k _ => (n - intOf k).toNat)
  case atStart => exact ⟨0, 1, Nat.zero_le _, rfl, rfl, Nat.le_refl _, by rw [← HTT.out]; exact p2 i, rfl⟩
  case round =>
    obtain ⟨j, q, hj, HQ, rfl, hq1, hqt, rfl⟩ := hrel
    by_cases hji : j < i
    · have hlt : 2 * q ≤ t := by
        rw [HQ.out, ← HTT.out, ← p2s]
        exact p2le (by omega)
      have hc : (q : Int) < (n : Int) - q := by omega
      go_wp2
      go_roundw
      case rel => exact ⟨j + 1, 2 * q, by omega, by show _ = _; rw [HQ.out, p2s], by go_num, by omega, hlt, by first | rfl | trivial⟩
      case measure => simp [intOf]; omega
    · have hjj : j = i := by omega
      have hqq : q = t := by rw [HQ.out, hjj, HTT.out]
      have hc : ¬ (q : Int) < (n : Int) - q := by omega
      subst hqq
      clear hjj
      go_wp2
      go_ret
      exact ⟨rfl, rfl⟩
-- parts told, one behind the other
structure Td (s : Src) (sb : Nat) (lv : Value) (sbase : Nat) (nv : Value) (F0 : Nat → Prop) (w0 : World) (l0 L : List (Nat × Nat)) (base : Nat) (k : Nat) (u : Value) (wr : World) (F : Nat → Prop) (l : List (Nat × Nat)) (acc : List ByteArray) : Prop where
  j : SJ s sb lv sbase F l wr
  go : Goes F0 w0 F wr
  nodes : ReadsA wr nv L
  nout : ∀ b off n cap, nv = .slice (some ⟨b, off, none⟩) n cap → ¬ F b ∧ b < base
  own : wr.ownsRow base 9 1 u k (acc.map Value.string)
  bes : Beside F u
  base_le : w0.heap.size ≤ base ∧ base ≤ wr.heap.size
  bx : ∀ b, Dp lv b → b < w0.heap.size
  kk : k ≤ L.length ∧ acc.length = k ∧ l.length ≤ l0.length + 122 * k
  eq : told (okw s.wd) (fow s.wd) (askS s) l0 L = (acc ++ (told (okw s.wd) (fow s.wd) (askS s) l (L.drop k)).1, (told (okw s.wd) (fow s.wd) (askS s) l (L.drop k)).2)
set_option maxHeartbeats 3200000 in
theorem toldS (s : Src) (sb : Nat) (lv : Value) (sbase : Nat) (hcd : i64 s.code) (F : Nat → Prop) (l : List (Nat × Nat)) (v : Value) (B : Nat) (L : List (Nat × Nat)) (w : World) (hown : w.ownsRow B 90 2 v L.length (cls L)) (hbes : Beside F v) (hL : L.length ≤ 1000000) (hp : ∀ p ∈ L, p.1 ≤ p.2 ∧ p.2 ≤ 4611686018427387904) (hN : l.length + 122 * L.length ≤ 4294967296) (hJ : SJ s sb lv sbase F l w) :
    Calls Tryd.prog 31 #[.pointer (some ⟨sb, 0, none⟩), v] w (Proved (SJ s sb lv sbase) F w (told (okw s.wd) (fow s.wd) (askS s) l L)) := by
  have RR : Hid (Rd 48 #[.pointer (some ⟨sb, 0, none⟩)] #[] (askS s) (SJ s sb lv sbase) 4294967296 (Dp lv)) := srcR s sb lv sbase hcd
  have HJ : Hid (SJ s sb lv sbase F l w) := hJ
  have HP : Hid (∀ p ∈ L, p.1 ≤ p.2 ∧ p.2 ≤ 4611686018427387904) := hp
  have HCD : Hid (i64 s.code) := hcd
  obtain ⟨T, HTT⟩ : ∃ T, Hid (told (okw s.wd) (fow s.wd) (askS s) l L = T) := ⟨_, rfl⟩
  rw [HTT.out]
  obtain ⟨i9, hi9', hz0, hz1, hz2⟩ := ka.info_parts ka.hi9
  have HIN : Hid (_ ∧ _ ∧ _ ∧ _) := ⟨hi9', hz0, hz1, hz2⟩
  have hR := own_readsP hown
  obtain ⟨av, cap, rfl⟩ := formA hR
  obtain ⟨n, HLN⟩ : ∃ n, Hid (L.length = n) := ⟨_, rfl⟩
  have HH0 : Hid (Td s sb lv sbase (.slice av L.length cap) F w l L w.heap.size 0 (.slice none 0 0) w F l []) := by
    refine ⟨hJ, Goes.refl _ _, hR, ?_, World.ownsRow_nil _ _ _ _, (fun g h => by cases h), ⟨Nat.le_refl _, Nat.le_refl _⟩, RR.out.big hJ, ⟨Nat.zero_le _, rfl, by omega⟩, ?_⟩
    · intro b off n' cap' he
      have hg : (Value.slice av L.length cap).ownBlock = some b := by rw [he]; rfl
      exact ⟨hbes b hg, (owns_lt hown hg).1⟩
    · rw [List.drop_zero, List.nil_append]
  rw [HLN.out] at HH0 hL hN ⊢
  clear hJ hp hown hbes hR hi9' hz0 hz1 hz2 hcd
  go_enter Tryd.func31, Tryd.ntmps31
  go_wp2
  go_loopw [6, 7] (fun u i wr => ∃ k : Nat, i = .int .i64 k ∧ k ≤ n ∧ ∃ F' l' acc, Hid (Td s sb lv sbase (.slice av n cap) F w l L w.heap.size k u wr F' l' acc)) (fun _ i _ => (n - intOf i).toNat)
  case atStart => exact ⟨0, rfl, Nat.zero_le _, F, l, [], HH0.out⟩
  case round =>
    clear HH0
    obtain ⟨k, rfl, hkn, F', l', acc, HLP⟩ := hrel
    by_cases hk : k < n
    · have hk' : (k : Int) < n := by omega
      have hkl : k < L.length := by rw [HLN.out]; exact hk
      obtain ⟨x, hx⟩ : ∃ x, L[k]? = some x := ⟨_, List.getElem?_eq_getElem hkl⟩
      obtain ⟨b1, rfl, c1, c2⟩ := row_at HLP.out.nodes (k := x.1) (i := x.2) hx
      have HXX : Hid (L.drop k = x :: L.drop (k + 1) ∧ x ∈ L) := by
        have e := List.getElem?_eq_some_iff.1 hx
        exact ⟨by rw [List.drop_eq_getElem_cons hkl, e.2], List.mem_of_getElem? hx⟩
      have hpx := HP.out x HXX.out.2
      have BD : Hid (Below wr.heap.size wr wr.drew) := below_dN (Below.refl _ _) 1
      have C1 : Hid (Calls _ _ _ _ _) := hashS s sb lv sbase HCD.out F' l' x.1 x.2 wr.drew hpx.1 hpx.2 (by have := HLP.out.kk; rw [HLN.out] at this; omega) (RR.out.later HLP.out.j BD.out)
      obtain ⟨q, HQ⟩ : ∃ q, Hid (hashP (okw s.wd) (fow s.wd) (askS s) l' x = q) := ⟨_, rfl⟩
      rw [show (x.1, x.2) = x from rfl, HQ.out] at C1
      obtain ⟨h, c, lq⟩ := q
      dsimp only at C1
      have HQL : Hid (lq.length ≤ l'.length + 122) := by
        have := hashP_size (okw s.wd) (fow s.wd) (askS s) (l := l') (p := x) hpx.1 hpx.2
        rw [HQ.out] at this
        exact this
      clear hx hpx
      go_wp2_with fail
      go_region_with (first | (go_at_call 49; refine C1.out.mono ?_; rintro e w3 ⟨rfl, F3, hJ3, hG3⟩; have J3 : Hid (SJ s sb lv sbase F3 lq w3 ∧ Goes F' wr F3 w3 ∧ Goes F w F3 w3) := ⟨hJ3, (Goes.of_below BD.out).trans hG3, HLP.out.go.trans ((Goes.of_below BD.out).trans hG3)⟩; clear hJ3 hG3))
      all_goals (
        by_cases hc : c = 0
        · subst hc
          have HEQ : Hid (told (okw s.wd) (fow s.wd) (askS s) l L = ((acc ++ [h]) ++ (told (okw s.wd) (fow s.wd) (askS s) lq (L.drop (k + 1))).1, (told (okw s.wd) (fow s.wd) (askS s) lq (L.drop (k + 1))).2)) := by
            have h1 := HLP.out.eq
            rw [HXX.out.1, told_yes (okw s.wd) (fow s.wd) (askS s) (by rw [HQ.out]), HQ.out] at h1
            show _ = _
            rw [h1, List.append_assoc]
            rfl
          have OWB : Hid (_ ∧ Beside F3 u6) := J3.out.2.1.owns HLP.out.own HLP.out.bes
          have BB : Hid (Below w3.heap.size w3 (w3.alloc (.cells #[.string h] 9))) := (Below.refl _ _).alloc (Nat.le_refl _) _
          have OX : Hid ((w3.alloc (.cells #[.string h] 9)).ownsRow w.heap.size 9 1 u6 k (acc.map Value.string)) := own_later OWB.out.1 BB.out
          have SX : Hid (w.heap.size ≤ (w3.alloc (.cells #[.string h] 9)).heap.size) := by
            have h1 := HLP.out.base_le.2
            have h3 := J3.out.2.1.1.size
            have h4 := BB.out.size
            show _ ≤ _
            omega
          go_wp2_with (at_builtin; refine wpList_append_own_at _ rfl _ _ 22 rfl w.heap.size 9 i9 (.string ByteArray.empty) 1 16 Tryd.underlying22 HIN.out.1 HIN.out.2.1 HIN.out.2.2.1 HIN.out.2.2.2 rfl (by decide) _ k _ rfl OX.out ⟨w3.heap.size, 0, none⟩ 1 1 [.string h] rfl rfl (new_text _ _ _) (one_text _) (by unfold maxLen; omega) (by omega) SX.out ?_; intro p' w5 ho hg hnn hat; have HO5 : Hid (w5.ownsRow w.heap.size 9 1 p' (k + 1) (acc.map Value.string ++ [.string h])) := ho; have HG5 : Hid ((w3.alloc (.cells #[.string h] 9)).grownBy w5 u6.ownBlock ∧ (p'.ownBlock = u6.ownBlock ∨ p'.ownBlock = some (w3.alloc (.cells #[.string h] 9)).heap.size)) := ⟨hg, hat⟩; clear ho hg hnn hat)
          go_roundw
          case rel =>
            obtain ⟨j5, g5, b5⟩ := grow_beside RR.out (RR.out.later J3.out.1 BB.out) (J3.out.2.2.trans (Goes.of_below BB.out)) HLP.out.base_le.1 HLP.out.bx OX.out OWB.out.2 HG5.out.1 HG5.out.2
            have hbs : ∀ b, b < w.heap.size → b < (w3.alloc (.cells #[.string h] 9)).heap.size → w5.heap[b]? = (w3.alloc (.cells #[.string h] 9)).heap[b]? := fun b hb hlt => HG5.out.1.block b hlt (fun e => by have := (owns_lt OX.out e.symm).2; omega)
            have hro : ReadsA w5 (.slice (some ⟨b1, 0, none⟩) n cap) L := by
              have r1 := J3.out.2.1.readsA HLP.out.nodes (fun b off n cap he => (HLP.out.nout b off n cap he).1)
              exact readsA_keep (r1.later BB.out) (fun b off n cap he hlt => hbs b (HLP.out.nout b off n cap he).2 hlt)
            refine ⟨k + 1, by go_num, by omega, F3, lq, acc ++ [h], ⟨j5, g5, hro, ?_, ?_, b5, ⟨HLP.out.base_le.1, ?_⟩, HLP.out.bx, ⟨by rw [HLN.out]; omega, ?_, ?_⟩, HEQ.out⟩⟩
            · intro b off n' cap' he
              have q := HLP.out.nout b off n' cap' he
              exact ⟨J3.out.2.1.out (by have := HLP.out.base_le.2; omega) q.1, q.2⟩
            · rw [List.map_append]; exact HO5.out
            · exact Nat.le_trans SX.out HG5.out.1.size
            · rw [List.length_append, HLP.out.kk.2.1]; rfl
            · have h1 := HLP.out.kk.2.2
              have h2 := HQL.out
              omega
          case measure => simp [intOf]; omega
        · have q0 : (c == 0) = false := by rw [beq_eq_false_iff_ne]; exact hc
          have HE : Hid (T = (acc ++ [], c, lq)) := by
            have h1 := HLP.out.eq
            rw [HXX.out.1, told_no (okw s.wd) (fow s.wd) (askS s) (by rw [HQ.out]; exact hc), HQ.out, HTT.out] at h1
            exact h1
          have HCN : Hid (c ≠ 0) := hc
          clear hc
          go_wp2
          go_ret2
          rw [HE.out]
          refine ⟨.slice none 0 0, F3, rfl, ?_, J3.out.1, J3.out.2.2, fun g h => by cases h⟩
          unfold ans
          rw [if_neg HCN.out]
          exact World.ownsRow_nil _ _ _ _)
    · obtain rfl : n = k := by omega
      have HE : Hid (T = (acc, 0, l')) := by
        have h1 := HLP.out.eq
        rw [List.drop_of_length_le (by rw [HLN.out]; exact Nat.le_refl _), HTT.out] at h1
        rw [h1]
        show (acc ++ [], _) = _
        rw [List.append_nil]
        rfl
      clear hk
      go_wp2
      go_ret2
      rw [HE.out]
      refine ⟨u6, F', rfl, ?_, HLP.out.j, HLP.out.go, HLP.out.bes⟩
      unfold ans
      rw [if_pos rfl]
      show World.ownsRow _ _ _ _ _ acc.length (acc.map Value.string)
      rw [HLP.out.kk.2.1]
      exact own_down HLP.out.own (Nat.le_refl _)
end Go.Proofs.YtglffbhcnafbnabDoor.ta

namespace Go.Proofs.YtglffbhcnafbnabDoor.tg
open Go.RowKit Go.PlainAid Go.Shelf
open Go.Proofs.YtglffbhcnafbnabDoor.pl Go.Proofs.YtglffbhcnafbnabDoor.pi Go.Proofs.YtglffbhcnafbnabDoor.rf Go.Proofs.YtglffbhcnafbnabDoor.pj Go.Proofs.YtglffbhcnafbnabDoor.ca Go.Proofs.YtglffbhcnafbnabDoor.cb Go.Proofs.YtglffbhcnafbnabDoor.cp Go.Proofs.YtglffbhcnafbnabDoor.cs Go.Proofs.YtglffbhcnafbnabDoor.xc Go.Proofs.YtglffbhcnafbnabDoor.ka Go.Proofs.YtglffbhcnafbnabDoor.kb Go.Proofs.YtglffbhcnafbnabDoor.ga Go.Proofs.YtglffbhcnafbnabDoor.aa Go.Proofs.YtglffbhcnafbnabDoor.ab Go.Proofs.YtglffbhcnafbnabDoor.tb Go.Proofs.YtglffbhcnafbnabDoor.ac Go.Proofs.YtglffbhcnafbnabDoor.bc Go.Proofs.YtglffbhcnafbnabDoor.bd Go.Proofs.YtglffbhcnafbnabDoor.bh Go.Proofs.YtglffbhcnafbnabDoor.bi Go.Proofs.YtglffbhcnafbnabDoor.bt Go.Proofs.YtglffbhcnafbnabDoor.sa Go.Proofs.YtglffbhcnafbnabDoor.sb Go.Proofs.YtglffbhcnafbnabDoor.sc Go.Proofs.YtglffbhcnafbnabDoor.sd Go.Proofs.YtglffbhcnafbnabDoor.se Go.Proofs.YtglffbhcnafbnabDoor.sf Go.Proofs.YtglffbhcnafbnabDoor.sg Go.Proofs.YtglffbhcnafbnabDoor.sh Go.Proofs.YtglffbhcnafbnabDoor.ta
set_option linter.unusedVariables false

theorem part_row (w : World) (a b : Nat) : (w.alloc (.cells #[.int .i64 a, .int .i64 b] 90)).ownsRow w.heap.size 90 2 (.slice (some ⟨w.heap.size, 0, none⟩) 1 1) 1 (cls [(a, b)]) :=
  ⟨rfl, .inr ⟨w.heap.size, 1, #[.int .i64 a, .int .i64 b], rfl, Nat.le_refl _, heap_alloc_new _ _, Nat.le_refl _, by unfold maxLen; decide, rfl, rfl⟩⟩
def Parts (w : World) (ps : List (Nat × Nat)) (e : Ending) (w' : World) : Prop := (∃ u, e = .returned u ∧ w'.ownsRow w.heap.size 90 2 u ps.length (cls ps)) ∧ Below w.heap.size w w'
theorem told_bound (s : Src) (lk : Nat → Nat → Nat) (n : Nat) (hn : n ≤ 4611686018427387904) (hl : (WL lk 0 n).length ≤ 1000000) : (told (okw s.wd) (fow s.wd) (askS s) [] (WL lk 0 n)).2.2.length ≤ 4294967296 ∧ (ans (told (okw s.wd) (fow s.wd) (askS s) [] (WL lk 0 n))).length ≤ 140737488355328 := by
  have := told_size (okw s.wd) (fow s.wd) (askS s) (WL lk 0 n) [] (fun p hp => by have := WL_in lk n 0 n rfl (Nat.zero_le _) p hp; omega)
  rw [List.length_nil] at this
  refine ⟨by omega, ?_⟩
  unfold ans
  split
  · omega
  · simp
theorem one_cls (L : List (Nat × Nat)) : ∀ u ∈ cls L, u.oneCell' = true := by
  intro u hu
  unfold cls at hu
  obtain ⟨a, _, h⟩ := List.mem_flatMap.1 hu
  simp only [cl, List.mem_cons, List.not_mem_nil, or_false] at h
  rcases h with rfl | rfl <;> rfl
theorem out_short {lo hi a b : Nat} (hlh : lo < hi) (hab : a < b) (hb : b ≤ 4611686018427387904) : (WL (lkR lo hi) a b).length ≤ 125 := by
  by_cases h : b ≤ lo ∨ hi ≤ a
  · rw [WL_take (by unfold lkR; rw [if_pos h])]; simp
  · have := out_len lo hi 62 a b (by rw [p62]; omega) hlh hab h
    omega
set_option maxHeartbeats 3200000 in
theorem outD (lo hi : Nat) (hlh : lo < hi) (hhi : hi ≤ 4611686018427387904) (n : Nat) : ∀ (a b : Nat) (w : World), b - a = n → a < b → b ≤ 4611686018427387904 →
    Calls Tryd.prog 32 #[.int .i64 a, .int .i64 b, .int .i64 lo, .int .i64 hi] w (Parts w (WL (lkR lo hi) a b)) := by
  induction n using Nat.strongRecOn with
  | ind n ih =>
    intro a b w hn hab hb
    have IH : Hid (∀ (a' b' : Nat) (w : World), b' - a' < n → a' < b' → b' ≤ 4611686018427387904 → Calls Tryd.prog 32 #[.int .i64 a', .int .i64 b', .int .i64 lo, .int .i64 hi] w (Parts w (WL (lkR lo hi) a' b'))) := fun a' b' w hl g1 g2 => ih (b' - a') hl a' b' w rfl g1 g2
    obtain ⟨i9, hi9', hz0, hz1, hz2⟩ := cs.info_parts hiP
    have HIN : Hid (_ ∧ _ ∧ _ ∧ _) := ⟨hi9', hz0, hz1, hz2⟩
    have PR : Hid (_ ∧ _) := ⟨part_row w a b, (Below.refl _ _).alloc (Nat.le_refl w.heap.size) (.cells #[.int .i64 a, .int .i64 b] 90)⟩
    obtain ⟨ps, HPS⟩ : ∃ ps, Hid (WL (lkR lo hi) a b = ps) := ⟨_, rfl⟩
    rw [HPS.out]
    clear ih hi9' hz0 hz1 hz2
    by_cases h1 : b ≤ lo
    · obtain rfl : [(a, b)] = ps := by rw [← HPS.out, WL_take (by unfold lkR; rw [if_pos (.inl h1)])]
      clear HPS
      go_enter Tryd.func32, Tryd.ntmps32
      go_wp2
      go_ret
      exact ⟨⟨_, rfl, PR.out.1⟩, PR.out.2⟩
    · by_cases h2 : hi ≤ a
      · obtain rfl : [(a, b)] = ps := by rw [← HPS.out, WL_take (by unfold lkR; rw [if_pos (.inr h2)])]
        clear HPS
        go_enter Tryd.func32, Tryd.ntmps32
        go_wp2
        go_ret
        exact ⟨⟨_, rfl, PR.out.1⟩, PR.out.2⟩
      · by_cases h3 : lo ≤ a ∧ b ≤ hi
        · obtain rfl : [] = ps := by rw [← HPS.out, WL_pass (by unfold lkR; rw [if_neg (by omega), if_pos h3])]
          obtain ⟨h3a, h3b⟩ := h3
          clear HPS
          go_enter Tryd.func32, Tryd.ntmps32
          go_wp2
          go_ret
          exact ⟨⟨_, rfl, World.ownsRow_nil _ _ _ _⟩, Below.refl _ _⟩
        · have h : 2 ≤ b - a := by omega
          have hh := half_lt h
          have SC : Hid (∀ w, Calls _ _ _ _ _) := fun w => splitD (b - a) h (by omega) w
          rw [show ((b - a : Nat) : Int) = (b : Int) - a by omega] at SC
          have HW : Hid (WL (lkR lo hi) a (a + half (b - a)) ++ WL (lkR lo hi) (a + half (b - a)) b = ps) := by
            show _ = _
            rw [← HPS.out, WL_left (by unfold lkR; rw [if_neg (by omega), if_neg h3]) h]
          have I1 : Hid (∀ w, Calls _ _ _ _ _) := fun w => IH.out a (a + half (b - a)) w (by omega) (by omega) (by omega)
          have I2 : Hid (∀ w, Calls _ _ _ _ _) := fun w => IH.out (a + half (b - a)) b w (by omega) (by omega) hb
          have l1 := out_short (lo := lo) (hi := hi) (a := a) (b := a + half (b - a)) hlh (by omega) (by omega)
          have l2 := out_short (lo := lo) (hi := hi) (a := a + half (b - a)) (b := b) hlh (by omega) hb
          obtain ⟨k, HK⟩ : ∃ k, Hid (half (b - a) = k) := ⟨_, rfl⟩
          rw [HK.out] at SC I1 I2 HW l1 l2 hh
          obtain ⟨p1, HP1⟩ : ∃ x, Hid (WL (lkR lo hi) a (a + k) = x) := ⟨_, rfl⟩
          obtain ⟨p2, HP2⟩ : ∃ x, Hid (WL (lkR lo hi) (a + k) b = x) := ⟨_, rfl⟩
          rw [HP1.out] at I1 HW l1
          rw [HP2.out] at I2 HW l2
          have e1 : ((a + k : Nat) : Int) = (a : Int) + k := by omega
          rw [e1] at I1 I2
          have hw : IntKind.i64.wrap ((a : Int) + k) = (a : Int) + k := by rw [IntKind.wrap_i64]; omega
          have HX3 : Hid (¬ (lo ≤ a ∧ b ≤ hi)) := h3
          have TAILY : Hid (∀ (w1 w2 w3 : World) (u v : Value), w2.ownsRow w1.heap.size 90 2 u p1.length (cls p1) → w3.ownsRow w2.heap.size 90 2 v p2.length (cls p2) → Below w1.heap.size w1 w2 → Below w2.heap.size w2 w3 → w3.ownsRow w1.heap.size 90 2 u p1.length (cls p1) ∧ w1.heap.size ≤ w3.heap.size) := fun w1 w2 w3 u v h1 h2 b1 b2 => ⟨own_later h1 b2, Nat.le_trans b1.size b2.size⟩
          by_cases h3a : lo ≤ a
          · have h3b : ¬ b ≤ hi := fun z => h3 ⟨h3a, z⟩
            clear h HPS h3
            go_enter Tryd.func32, Tryd.ntmps32
            go_wp2_with fail
            refine (SC.out _).mono ?_
            rintro e w1 ⟨rfl, hw1⟩
            subst hw1
            go_wp2_with fail
            refine (I1.out _).mono ?_
            rintro e w2 ⟨⟨u, rfl, ho⟩, hb2⟩
            have HO2 : Hid (w2.ownsRow w1.heap.size 90 2 u p1.length (cls p1)) := ho
            have B2 : Hid (Below w1.heap.size w1 w2) := hb2
            clear ho hb2
            go_wp2_with fail
            refine (I2.out _).mono ?_
            rintro e w3 ⟨⟨v, rfl, ho⟩, hb3⟩
            have OX : Hid (_ ∧ _) := TAILY.out w1 w2 w3 u v HO2.out ho B2.out hb3
            have B3 : Hid (Below w1.heap.size w1 w3) := over B2.out hb3
            have HO3 : Hid (w3.ownsRow w2.heap.size 90 2 v p2.length (cls p2)) := ho
            clear hb3
            rcases ho.2 with ⟨rfl, h0⟩ | ⟨gg, cap, cur, rfl, hgg, hcur, hle, hmx, hsz, htk⟩
            · have hp2 : p2 = [] := List.length_eq_zero_iff.1 h0
              have HWX : Hid (p1 = ps) := by have := HW.out; rw [hp2, List.append_nil] at this; exact this
              clear ho h0 hp2 HO3
              go_wp2_with (at_builtin; refine wpList_append_own_none rfl _ _ 69 rfl w1.heap.size 90 i9 2 Tryd.underlying69 HIN.out.1 _ p1.length _ rfl OX.out.1 rfl ?_)
              go_ret
              exact ⟨⟨_, rfl, by rw [← HWX.out]; exact OX.out.1⟩, B3.out⟩
            · have NX : Hid (∀ (j : Nat) (u : Value), (cls p2)[j]? = some u → w3.cell? (Addr.add ⟨gg, 0, none⟩ j) = some u) := by
                intro j x hx
                have hj : j < p2.length * 2 := by have := (List.getElem?_eq_some_iff.1 hx).1; rw [cls_len] at this; exact this
                rw [show (Addr.add ⟨gg, 0, none⟩ j) = ⟨gg, j, none⟩ by cases j <;> simp [Addr.add]]
                exact (HO3.out.cellAt j hj).trans hx
              have HL2 : Hid ((cls p2).length = p2.length * 2) := cls_len p2
              clear ho hgg hcur hle hmx hsz htk
              go_wp2_with (at_builtin; refine wpList_append_own _ rfl _ _ 69 rfl w1.heap.size 90 i9 (.agg #[.int .i64 0, .int .i64 0]) 2 16 Tryd.underlying69 HIN.out.1 HIN.out.2.1 HIN.out.2.2.1 HIN.out.2.2.2 rfl (by decide) _ p1.length _ rfl OX.out.1 ⟨gg, 0, none⟩ p2.length cap (cls p2) rfl HL2.out NX.out (one_cls _) (by unfold maxLen; omega) (by omega) OX.out.2 ?_; intro p' w5 ho hg hnn; have HO5 : Hid (w5.ownsRow w1.heap.size 90 2 p' (p1.length + p2.length) (cls p1 ++ cls p2)) := ho; have HB5 : Hid (Below w1.heap.size w1 w5) := Below.grown B3.out hg OX.out.2 (fun jj hj => (OX.out.1.lt _ hj).1); clear ho hg hnn)
              go_ret
              refine ⟨⟨_, rfl, ?_⟩, HB5.out⟩
              rw [← HW.out, List.length_append, cls_app]
              exact HO5.out
          · clear h HPS h3
            go_enter Tryd.func32, Tryd.ntmps32
            go_wp2_with fail
            refine (SC.out _).mono ?_
            rintro e w1 ⟨rfl, hw1⟩
            subst hw1
            go_wp2_with fail
            refine (I1.out _).mono ?_
            rintro e w2 ⟨⟨u, rfl, ho⟩, hb2⟩
            have HO2 : Hid (w2.ownsRow w1.heap.size 90 2 u p1.length (cls p1)) := ho
            have B2 : Hid (Below w1.heap.size w1 w2) := hb2
            clear ho hb2
            go_wp2_with fail
            refine (I2.out _).mono ?_
            rintro e w3 ⟨⟨v, rfl, ho⟩, hb3⟩
            have OX : Hid (_ ∧ _) := TAILY.out w1 w2 w3 u v HO2.out ho B2.out hb3
            have B3 : Hid (Below w1.heap.size w1 w3) := over B2.out hb3
            have HO3 : Hid (w3.ownsRow w2.heap.size 90 2 v p2.length (cls p2)) := ho
            clear hb3
            rcases ho.2 with ⟨rfl, h0⟩ | ⟨gg, cap, cur, rfl, hgg, hcur, hle, hmx, hsz, htk⟩
            · have hp2 : p2 = [] := List.length_eq_zero_iff.1 h0
              have HWX : Hid (p1 = ps) := by have := HW.out; rw [hp2, List.append_nil] at this; exact this
              clear ho h0 hp2 HO3
              go_wp2_with (at_builtin; refine wpList_append_own_none rfl _ _ 69 rfl w1.heap.size 90 i9 2 Tryd.underlying69 HIN.out.1 _ p1.length _ rfl OX.out.1 rfl ?_)
              go_ret
              exact ⟨⟨_, rfl, by rw [← HWX.out]; exact OX.out.1⟩, B3.out⟩
            · have NX : Hid (∀ (j : Nat) (u : Value), (cls p2)[j]? = some u → w3.cell? (Addr.add ⟨gg, 0, none⟩ j) = some u) := by
                intro j x hx
                have hj : j < p2.length * 2 := by have := (List.getElem?_eq_some_iff.1 hx).1; rw [cls_len] at this; exact this
                rw [show (Addr.add ⟨gg, 0, none⟩ j) = ⟨gg, j, none⟩ by cases j <;> simp [Addr.add]]
                exact (HO3.out.cellAt j hj).trans hx
              have HL2 : Hid ((cls p2).length = p2.length * 2) := cls_len p2
              clear ho hgg hcur hle hmx hsz htk
              go_wp2_with (at_builtin; refine wpList_append_own _ rfl _ _ 69 rfl w1.heap.size 90 i9 (.agg #[.int .i64 0, .int .i64 0]) 2 16 Tryd.underlying69 HIN.out.1 HIN.out.2.1 HIN.out.2.2.1 HIN.out.2.2.2 rfl (by decide) _ p1.length _ rfl OX.out.1 ⟨gg, 0, none⟩ p2.length cap (cls p2) rfl HL2.out NX.out (one_cls _) (by unfold maxLen; omega) (by omega) OX.out.2 ?_; intro p' w5 ho hg hnn; have HO5 : Hid (w5.ownsRow w1.heap.size 90 2 p' (p1.length + p2.length) (cls p1 ++ cls p2)) := ho; have HB5 : Hid (Below w1.heap.size w1 w5) := Below.grown B3.out hg OX.out.2 (fun jj hj => (OX.out.1.lt _ hj).1); clear ho hg hnn)
              go_ret
              refine ⟨⟨_, rfl, ?_⟩, HB5.out⟩
              rw [← HW.out, List.length_append, cls_app]
              exact HO5.out
theorem rngA_bound (s : Src) (lo hi n : Int) : (rngA s.wd (askS s) s.sz lo hi n []).2.2.length ≤ 4294967296 ∧ (ans (rngA s.wd (askS s) s.sz lo hi n [])).length ≤ 140737488355328 := by
  unfold rngA
  split
  · rename_i h0
    obtain ⟨k1, k2, k3, k4⟩ := chk_ok h0
    split
    · exact ⟨by simp, by unfold ans; split <;> simp⟩
    · refine told_bound s _ _ (by omega) ?_
      have := out_short (lo := lo.toNat) (hi := hi.toNat) (a := 0) (b := n.toNat) (by omega) (by omega) (by omega)
      omega
  · exact ⟨by simp, by unfold ans; split <;> simp⟩
-- the document's Range
set_option maxHeartbeats 1600000 in
theorem rangeS (s : Src) (sb : Nat) (lv : Value) (base : Nat) (hcd : i64 s.code) (lo hi n : Int) (F : Nat → Prop) (l : List (Nat × Nat)) (w : World) (hN : l.length + 122 * 125 ≤ 4294967296) (hJ : SJ s sb lv base F l w) :
    Calls Tryd.prog 10 #[.pointer (some ⟨sb, 0, none⟩), .int .i64 lo, .int .i64 hi, .int .i64 n] w (Proved (SJ s sb lv base) F w (rngA s.wd (askS s) s.sz lo hi n l)) := by
  have GC : Hid (Calls _ _ _ _ _) := goesS s sb n w (SJ.cells hJ).2
  have RR : Hid (Rd 48 #[.pointer (some ⟨sb, 0, none⟩)] #[] (askS s) (SJ s sb lv base) 4294967296 (Dp lv)) := srcR s sb lv base hcd
  have HJ : Hid (SJ s sb lv base F l w) := hJ
  obtain ⟨A, HA⟩ : ∃ A, Hid (rngA s.wd (askS s) s.sz lo hi n l = A) := ⟨_, rfl⟩
  rw [HA.out]
  by_cases h0 : chk s.sz n = 0
  · obtain ⟨k1, k2, k3, k4⟩ := chk_ok h0
    rw [h0] at GC
    by_cases h1 : lo < 0
    · have HE : Hid (A = ([], 81, l)) := by show _ = _; rw [← HA.out]; unfold rngA; rw [if_pos h0, if_pos (.inl h1)]
      clear h0 hJ hN
      go_enter Tryd.func10, Tryd.ntmps10
      go_wp2_with fail
      refine GC.out.mono ?_
      rintro e w1 ⟨rfl, hw⟩
      subst hw
      go_wp2
      go_ret2
      exact refused HE.out HJ.out (Below.refl _ _)
    · by_cases h2 : hi ≤ lo
      · have HE : Hid (A = ([], 81, l)) := by show _ = _; rw [← HA.out]; unfold rngA; rw [if_pos h0, if_pos (.inr (.inl h2))]
        clear h0 hJ hN
        go_enter Tryd.func10, Tryd.ntmps10
        go_wp2_with fail
        refine GC.out.mono ?_
        rintro e w1 ⟨rfl, hw⟩
        subst hw
        go_wp2
        go_ret2
        exact refused HE.out HJ.out (Below.refl _ _)
      · by_cases h3 : n < hi
        · have HE : Hid (A = ([], 81, l)) := by show _ = _; rw [← HA.out]; unfold rngA; rw [if_pos h0, if_pos (.inr (.inr h3))]
          clear h0 hJ hN
          go_enter Tryd.func10, Tryd.ntmps10
          go_wp2_with fail
          refine GC.out.mono ?_
          rintro e w1 ⟨rfl, hw⟩
          subst hw
          go_wp2
          go_ret2
          exact refused HE.out HJ.out (Below.refl _ _)
        · obtain ⟨n', rfl⟩ := Int.eq_ofNat_of_zero_le k3
          obtain ⟨p, rfl⟩ := Int.eq_ofNat_of_zero_le (show 0 ≤ lo by omega)
          obtain ⟨q, rfl⟩ := Int.eq_ofNat_of_zero_le (show 0 ≤ hi by omega)
          have e1 : told (okw s.wd) (fow s.wd) (askS s) l (WL (lkR p q) 0 n') = A := by
            have := HA.out
            unfold rngA at this
            rw [if_pos h0, if_neg (by omega), Int.toNat_natCast, Int.toNat_natCast, Int.toNat_natCast] at this
            exact this
          have SC : Hid (Calls _ _ _ _ _) := outD p q (by omega) (by omega) n' 0 n' w (by omega) (by omega) (by omega)
          rw [show ((0 : Nat) : Int) = 0 from rfl] at SC
          have hlen := out_short (lo := p) (hi := q) (a := 0) (b := n') (by omega) (by omega) (by omega)
          have TC : Hid (∀ u w1, w1.ownsRow w.heap.size 90 2 u (WL (lkR p q) 0 n').length (cls (WL (lkR p q) 0 n')) → Below w.heap.size w w1 → Calls Tryd.prog 31 #[.pointer (some ⟨sb, 0, none⟩), u] w1 (Proved (SJ s sb lv base) F w1 A)) := by
            intro u w1 ho hb
            have := toldS s sb lv base hcd F l u w.heap.size (WL (lkR p q) 0 n') w1 ho (fun g hg hF => by have h1 := (owns_lt ho hg).2; have := RR.out.within HJ.out _ hF; omega) (by omega) (fun x hp => by have := WL_in (lkR p q) n' 0 n' rfl (Nat.zero_le _) x hp; omega) (by omega) (RR.out.later HJ.out hb)
            rw [e1] at this
            exact this
          clear h0 hJ hN e1 hlen
          go_enter Tryd.func10, Tryd.ntmps10
          go_wp2_with fail
          refine GC.out.mono ?_
          rintro e w1 ⟨rfl, hw⟩
          subst hw
          go_wp2_with fail
          refine SC.out.mono ?_
          rintro e w2 ⟨⟨u, rfl, ho⟩, hb2⟩
          have TC1 : Hid (Calls _ _ _ _ _) := TC.out u w2 ho hb2
          have B2 : Hid (Below w1.heap.size w1 w2) := hb2
          clear ho hb2
          go_wp2_with fail
          refine TC1.out.mono ?_
          rintro e w3 ⟨u3, F3, rfl, ho3, hj3, hg3, hbe⟩
          have H3 : Hid (w3.ownsRow w1.heap.size 9 1 u3 (ans A).length ((ans A).map Value.string) ∧ SJ s sb lv base F3 A.2.2 w3 ∧ Goes F w1 F3 w3 ∧ Beside F3 u3) := ⟨own_down ho3 B2.out.size, hj3, (Goes.of_below B2.out).trans hg3, hbe⟩
          clear ho3 hj3 hg3 hbe
          go_wp2
          go_ret2
          exact ⟨u3, F3, rfl, H3.out.1, H3.out.2.1, H3.out.2.2.1, H3.out.2.2.2⟩
  · have HE : Hid (A = ([], chk s.sz n, l)) := by
      show _ = _
      rw [← HA.out]
      unfold rngA
      rw [if_neg h0]
    obtain ⟨c, HCc⟩ : ∃ c, Hid (chk s.sz n = c) := ⟨_, rfl⟩
    rw [HCc.out] at GC HE h0
    have q0 : (c == 0) = false := by rw [beq_eq_false_iff_ne]; exact h0
    clear h0 hJ hN
    go_enter Tryd.func10, Tryd.ntmps10
    go_wp2_with fail
    refine GC.out.mono ?_
    rintro e w1 ⟨rfl, hw⟩
    subst hw
    go_wp2
    go_ret2
    exact refused HE.out HJ.out (Below.refl _ _)
end Go.Proofs.YtglffbhcnafbnabDoor.tg
