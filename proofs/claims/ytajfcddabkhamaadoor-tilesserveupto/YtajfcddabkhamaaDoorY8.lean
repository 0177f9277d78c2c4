import Derived.Test.YtajfcddabkhamaaDoorY7
import Derived.Laws.AppendOwnNone
import Derived.Test.YtajfcddabkhamaaDoorY5
import Derived.Handy
import Derived.Lib.SliceRun
import Derived.Laws.EntriesVeiled
namespace Go.Proofs.YtajfcddabkhamaaDoor.sg
open Go.RowKit Go.PlainAid Go.Shelf
open Go.Proofs.YtajfcddabkhamaaDoor.pl Go.Proofs.YtajfcddabkhamaaDoor.pi Go.Proofs.YtajfcddabkhamaaDoor.rf Go.Proofs.YtajfcddabkhamaaDoor.pj Go.Proofs.YtajfcddabkhamaaDoor.ca Go.Proofs.YtajfcddabkhamaaDoor.cb Go.Proofs.YtajfcddabkhamaaDoor.cp Go.Proofs.YtajfcddabkhamaaDoor.cs Go.Proofs.YtajfcddabkhamaaDoor.xc Go.Proofs.YtajfcddabkhamaaDoor.ka Go.Proofs.YtajfcddabkhamaaDoor.kb Go.Proofs.YtajfcddabkhamaaDoor.ga Go.Proofs.YtajfcddabkhamaaDoor.aa Go.Proofs.YtajfcddabkhamaaDoor.ab Go.Proofs.YtajfcddabkhamaaDoor.tb Go.Proofs.YtajfcddabkhamaaDoor.ac Go.Proofs.YtajfcddabkhamaaDoor.bc Go.Proofs.YtajfcddabkhamaaDoor.sa Go.Proofs.YtajfcddabkhamaaDoor.sb Go.Proofs.YtajfcddabkhamaaDoor.sc Go.Proofs.YtajfcddabkhamaaDoor.sd Go.Proofs.YtajfcddabkhamaaDoor.se Go.Proofs.YtajfcddabkhamaaDoor.sf
set_option linter.unusedVariables false

-- the source that a twin is
def tw (wd sz : Int) (ls : List ByteArray) (made : Bool) (fails code : Int) : Src := ⟨wd, if made then sz else ls.length, ls, made, fails, code⟩
structure Sized (ls : List ByteArray) : Prop where
  x : ∀ x ∈ ls, x.size ≤ 1048576
  k : ls.length ≤ 1048576
-- a source's block among others
theorem sj_new {s : Src} {sb : Nat} {lv : Value} {w : World} (hT : T7 w) (ho : So w sb s lv (.slice none 0 0)) (hsb : 6 ≤ sb) {B : Nat} (hB : sb < B) (hR : w.ownsRow B 9 1 lv s.ls.length (s.ls.map Value.string)) (hz : Sized s.ls) (hn : s.made = false → s.sz = s.ls.length) : Sj s sb lv w.heap.size (.slice none 0 0) (fun b => b = sb) [] w := by
  refine ⟨⟨hT, ho, own_readsT hR, hz.x, hn, ?_, hz.k⟩, World.ownsRow_nil _ _ _ _, fun b => ⟨fun h => .inl h, fun h => h.elim id (fun x => by cases x)⟩, ⟨hsb, ho.lt⟩, ?_, ⟨hT.t.t.big, Nat.le_refl _⟩⟩
  · intro a n c he
    rcases hR.2 with ⟨e, _⟩ | ⟨gg, cap, cur, e, _, _, _, hm, _⟩
    · rw [e] at he; injection he with _ _ e3; omega
    · rw [e] at he; injection he with _ _ e3; unfold maxLen at hm; omega
  · intro b off n c he
    have hg : lv.ownBlock = some b := by
      rcases hR.2 with ⟨e, _⟩ | ⟨gg, cap, cur, e, _⟩
      · rw [e] at he; cases he
      · rw [e] at he ⊢
        injection he with e1 e2 e3
        injection e1 with e1
        injection e1 with e1 e4
        subst e1
        rfl
    obtain ⟨h1, h2⟩ := owns_lt hR hg
    exact ⟨h1, fun e => by omega⟩
def Twinned (w : World) (s : Src) (e : Ending) (w' : World) : Prop := (∃ sb lv', e = .returned (.pointer (some ⟨sb, 0, none⟩)) ∧ w.heap.size ≤ sb ∧ (∀ b off n c, lv' = .slice (some ⟨b, off, none⟩) n c → w.heap.size ≤ b) ∧ Sj s sb lv' w'.heap.size (.slice none 0 0) (fun b => b = sb) [] w') ∧ Below w.heap.size w w'
set_option maxHeartbeats 3200000 in
set_option maxRecDepth 100000 in
theorem twinS (wd sz : Int) (lv : Value) (ls : List ByteArray) (made : Bool) (fails code : Int) (aa : Option Addr) (an ac : Nat) (w : World) (hT : T7 w) (hR : ReadsT w lv ls) (hno : ∀ k c, lv = .slice none k c → c = 0) (hz : Sized ls) :
    Calls Tryd.prog 4 #[.agg #[.int .i64 wd, .int .i64 sz, lv, .bool made, .int .i64 fails, .int .i64 code, .slice aa an ac]] w (Twinned w (tw wd sz ls made fails code)) := by
  obtain ⟨i9, hi, hz0, hz1, hz2⟩ := ka.info_parts ka.hi9
  have HIN : Hid (_ ∧ _ ∧ _ ∧ _) := ⟨hi, hz0, hz1, hz2⟩
  have HT : Hid (T7 w) := hT
  have HZ : Hid (Sized ls) := hz
  have HRD : Hid (ReadsT w lv ls) := hR
  obtain ⟨a, cap, rfl, hcap, hh⟩ := hR
  obtain ⟨n, HN⟩ : ∃ n, Hid (ls.length = n) := ⟨_, rfl⟩
  have HC0 : Hid (a = none → cap = 0) := fun h => hno ls.length cap (by rw [h])
  have hnk : n ≤ 1048576 := by have := hz.k; rw [HN.out] at this; exact this
  rw [HN.out] at hcap HRD ⊢
  obtain ⟨W2, HW2⟩ : ∃ W2, Hid ((w.alloc (.cells #[.int .i64 wd, .int .i64 sz, .slice a n cap, .bool made, .int .i64 fails, .int .i64 code, .slice aa an ac] 25)).alloc (.cells #[.int .i64 wd, .int .i64 sz, .slice a n cap, .bool made, .int .i64 fails, .int .i64 code, .slice none 0 0] 25) = W2) := ⟨_, rfl⟩
  have B2 : Hid (Below w.heap.size w W2) := by show Below _ _ _; rw [← HW2.out]; exact ((Below.refl _ _).alloc (Nat.le_refl _) _).alloc (by simp) _
  have s1 : (w.alloc (.cells #[.int .i64 wd, .int .i64 sz, .slice a n cap, .bool made, .int .i64 fails, .int .i64 code, .slice aa an ac] 25)).heap.size = w.heap.size + 1 := by simp
  have HY : Hid (W2.heap[w.heap.size + 1]? = some (.cells #[.int .i64 wd, .int .i64 sz, .slice a n cap, .bool made, .int .i64 fails, .int .i64 code, .slice none 0 0] 25 (0, 0))) := by
    show _ = _
    rw [← HW2.out, ← s1]
    exact heap_alloc_new _ _
  have S2 : Hid (W2.heap.size = w.heap.size + 2) := by show _ = _; rw [← HW2.out]; simp
  have X2 : W2.cell? ⟨w.heap.size, 2, none⟩ = some (.slice a n cap) := by
    rw [← HW2.out]
    refine (Below.cell (B := w.heap.size + 1) ((Below.refl _ _).alloc (by simp) _) (p := ⟨w.heap.size, 2, none⟩) (by show w.heap.size < w.heap.size + 1; omega)).trans ?_
    rw [World.cell?_alloc_at _ _ _ _ rfl]; rfl
  clear hh hi hz0 hz1 hz2 hno hT hz s1
  have RD2 : Hid (ReadsT W2 (.slice a n cap) ls) := HRD.out.later B2.out
  have TAIL : Hid (∀ (f' : Value) (w3 : World), w3.ownsRow W2.heap.size 9 1 f' n (ls.map Value.string) → Below W2.heap.size W2 w3 → ∃ fa fc, f' = .slice fa n fc ∧ w3.heap[w.heap.size + 1]? = some (.cells #[.int .i64 wd, .int .i64 sz, .slice a n cap, .bool made, .int .i64 fails, .int .i64 code, .slice none 0 0] 25 (0, 0))) := by
    intro f' w3 ho hb
    obtain ⟨fa, fc, rfl⟩ := own_formS ho
    exact ⟨fa, fc, rfl, (hb.block _ (by rw [S2.out]; omega)).trans HY.out⟩
  have FIN : Hid (∀ (f' : Value) (w3 : World) (s' : Int) (w5 : World), w3.ownsRow W2.heap.size 9 1 f' n (ls.map Value.string) → Below W2.heap.size W2 w3 → s' = (if made then sz else (n : Int)) → Kp (fun b => b = w.heap.size + 1) w3 w5 → w5.heap[w.heap.size + 1]? = some (.cells #[.int .i64 wd, .int .i64 s', f', .bool made, .int .i64 fails, .int .i64 code, .slice none 0 0] 25 (0, 0)) →
      Twinned w (tw wd sz ls made fails code) (.returned (.pointer (some ⟨w.heap.size + 1, 0, none⟩))) w5) := by
    intro f' w3 s' w5 ho hb hs hk h5
    have hb5 : Below w.heap.size w w5 := (B2.out.trans (hb.mono B2.out.size)).trans (hk.below (fun k hk => by omega) (Nat.le_trans B2.out.size hb.size))
    have ho5 : w5.ownsRow W2.heap.size 9 1 f' n (ls.map Value.string) := owns_keep ho (fun gg hg => hk.block gg (owns_lt ho hg).1 (fun e => by have := (owns_lt ho hg).2; rw [S2.out] at this; omega))
    refine ⟨⟨w.heap.size + 1, f', rfl, by omega, ?_, ?_⟩, hb5⟩
    · intro b off n' c he
      have hg : f'.ownBlock = some b := by rw [he]; rfl
      have := (owns_lt ho5 hg).2
      rw [S2.out] at this
      omega
    · have e1 : (tw wd sz ls made fails code).ls.length = n := HN.out
      refine sj_new (B := W2.heap.size) (HT.out.down hb5) ?_ (by have := HT.out.t.t.big; omega) (by rw [S2.out]; omega) (by rw [e1]; exact ho5) HZ.out ?_
      · show _ = _
        rw [h5]
        show some (Obj.cells #[.int .i64 wd, .int .i64 s', f', .bool made, .int .i64 fails, .int .i64 code, .slice none 0 0] 25 (0, 0)) = some (Obj.cells #[.int .i64 wd, .int .i64 (if made then sz else (ls.length : Int)), f', .bool made, .int .i64 fails, .int .i64 code, .slice none 0 0] 25 (0, 0))
        rw [hs, HN.out]
      · intro h
        have h' : made = false := h
        show (if made then sz else (ls.length : Int)) = ls.length
        rw [h']
        rfl
  cases a with
  | none =>
      obtain rfl : cap = 0 := HC0.out rfl
      have hn0 : n = 0 := by omega
      have hx0 : ls = [] := List.length_eq_zero_iff.1 (HN.out.trans hn0)
      have O0 : Hid (W2.ownsRow W2.heap.size 9 1 (.slice none 0 0) 0 []) := World.ownsRow_nil _ _ _ _
      have HO3 : Hid (W2.ownsRow W2.heap.size 9 1 (.slice none 0 0) n (ls.map Value.string)) := by show World.ownsRow _ _ _ _ _ _ _; rw [hx0, hn0]; exact O0.out
      have HB3 : Hid (Below W2.heap.size W2 W2) := Below.refl _ _
      have HY3 := HY.out
      have d2 : W2.cell? ⟨w.heap.size + 1, 2, none⟩ = some (.slice none n 0) := by rw [cell_of_row _ _ _ _ _ _ HY3]; rfl
      have f2 := frozen_of_row W2 (w.heap.size + 1) 2 _ _ HY3
      subst hn0
      clear HC0 hx0
      go_enter Tryd.func4, Tryd.ntmps4
      go_upto_region 3 with fail
      rw [HW2.out]
      go_upto_region 4 with (at_builtin; refine wpList_append_own_none rfl _ _ 22 rfl W2.heap.size 9 i9 1 Tryd.underlying22 HIN.out.1 _ 0 _ rfl O0.out rfl ?_)
      have H4 := heap_setCell_same W2 _ 2 _ _ (.slice none 0 0) HY3
      obtain ⟨W4, HW4⟩ : ∃ W4, Hid (W2.setCell ⟨w.heap.size + 1, 2, none⟩ (.slice none 0 0) = W4) := ⟨_, rfl⟩
      rw [HW4.out] at H4
      have H4' : W4.heap[w.heap.size + 1]? = some (.cells #[.int .i64 wd, .int .i64 sz, .slice none 0 0, .bool made, .int .i64 fails, .int .i64 code, .slice none 0 0] 25 (0, 0)) := H4
      have e3 : W4.cell? ⟨w.heap.size + 1, 3, none⟩ = some (.bool made) := by rw [cell_of_row _ _ _ _ _ _ H4']; rfl
      have e2 : W4.cell? ⟨w.heap.size + 1, 2, none⟩ = some (.slice none 0 0) := by rw [cell_of_row _ _ _ _ _ _ H4']; rfl
      have e1 : W4.cell? ⟨w.heap.size + 1, 1, none⟩ = some (.int .i64 sz) := by rw [cell_of_row _ _ _ _ _ _ H4']; rfl
      have f1 := frozen_of_row W4 (w.heap.size + 1) 1 _ _ H4'
      have K4 : Hid (Kp (fun b => b = w.heap.size + 1) W2 W4) := by show Kp _ _ _; rw [← HW4.out]; exact Kp.setCell (A := fun b => b = w.heap.size + 1) _ _ _ _ rfl
      have H5 := heap_setCell_same W4 _ 1 _ _ (.int .i64 0) H4'
      have HH4 : Hid (W4.heap[w.heap.size + 1]? = some (.cells #[.int .i64 wd, .int .i64 sz, .slice none 0 0, .bool made, .int .i64 fails, .int .i64 code, .slice none 0 0] 25 (0, 0))) := H4'
      have HH5 : Hid ((W4.setCell ⟨w.heap.size + 1, 1, none⟩ (.int .i64 0)).heap[w.heap.size + 1]? = some (.cells #[.int .i64 wd, .int .i64 0, .slice none 0 0, .bool made, .int .i64 fails, .int .i64 code, .slice none 0 0] 25 (0, 0))) := H5
      clear HY3 H4 H4' H5
      rw [HW4.out]
      cases made with
      | true =>
        go_wp2
        go_ret
        exact FIN.out _ W2 sz W4 HO3.out HB3.out rfl K4.out HH4.out
      | false =>
        go_wp2
        go_ret
        exact FIN.out _ W2 0 _ HO3.out HB3.out rfl (K4.out.trans (Kp.setCell (A := fun b => b = w.heap.size + 1) _ _ _ _ rfl)) HH5.out
  | some ad =>
      have HNW : Hid (∀ (j : Nat) (u : Value), (ls.map Value.string)[j]? = some u → W2.cell? (ad.add j) = some u) := reads_news RD2.out
      have HNL : Hid ((ls.map Value.string).length = n * 1) := by show _ = _; rw [List.length_map, HN.out, Nat.mul_one]
      have HN1 : Hid (∀ u ∈ ls.map Value.string, u.oneCell' = true) := by
        intro u hu
        obtain ⟨x, _, rfl⟩ := List.mem_map.1 hu
        rfl
      have O0 : Hid (W2.ownsRow W2.heap.size 9 1 (.slice none 0 0) 0 []) := World.ownsRow_nil _ _ _ _
      go_enter Tryd.func4, Tryd.ntmps4
      go_upto_region 3 with fail
      rw [HW2.out]
      go_upto_region 4 with (at_builtin; refine wpList_append_own _ rfl _ _ 22 rfl W2.heap.size 9 i9 (.string ByteArray.empty) 1 16 Tryd.underlying22 HIN.out.1 HIN.out.2.1 HIN.out.2.2.1 HIN.out.2.2.2 rfl (by decide) _ 0 _ rfl O0.out ad n cap (ls.map Value.string) rfl HNL.out HNW.out HN1.out (by unfold maxLen; omega) (by omega) (Nat.le_refl _) ?_; intro f' w3 ho hg hnn; have HO3 : Hid (w3.ownsRow W2.heap.size 9 1 f' n (ls.map Value.string)) := (by have := ho; rw [Nat.zero_add, List.nil_append] at this; exact this); have HB3 : Hid (Below W2.heap.size W2 w3) := Below.grown (Below.refl _ _) hg (Nat.le_refl _) (fun j hj => by cases hj); clear ho hg hnn; obtain ⟨fa, fc, rfl, HY3⟩ := TAIL.out f' w3 HO3.out HB3.out; have d2 : w3.cell? ⟨w.heap.size + 1, 2, none⟩ = some (.slice (some ad) n cap) := (by rw [cell_of_row _ _ _ _ _ _ HY3]; rfl); have f2 := frozen_of_row w3 (w.heap.size + 1) 2 _ _ HY3)
      have H4 := heap_setCell_same w3 _ 2 _ _ (.slice fa n fc) HY3
      obtain ⟨W4, HW4⟩ : ∃ W4, Hid (w3.setCell ⟨w.heap.size + 1, 2, none⟩ (.slice fa n fc) = W4) := ⟨_, rfl⟩
      rw [HW4.out] at H4
      have H4' : W4.heap[w.heap.size + 1]? = some (.cells #[.int .i64 wd, .int .i64 sz, .slice fa n fc, .bool made, .int .i64 fails, .int .i64 code, .slice none 0 0] 25 (0, 0)) := H4
      have e3 : W4.cell? ⟨w.heap.size + 1, 3, none⟩ = some (.bool made) := by rw [cell_of_row _ _ _ _ _ _ H4']; rfl
      have e2 : W4.cell? ⟨w.heap.size + 1, 2, none⟩ = some (.slice fa n fc) := by rw [cell_of_row _ _ _ _ _ _ H4']; rfl
      have e1 : W4.cell? ⟨w.heap.size + 1, 1, none⟩ = some (.int .i64 sz) := by rw [cell_of_row _ _ _ _ _ _ H4']; rfl
      have f1 := frozen_of_row W4 (w.heap.size + 1) 1 _ _ H4'
      have K4 : Hid (Kp (fun b => b = w.heap.size + 1) w3 W4) := by show Kp _ _ _; rw [← HW4.out]; exact Kp.setCell (A := fun b => b = w.heap.size + 1) _ _ _ _ rfl
      have H5 := heap_setCell_same W4 _ 1 _ _ (.int .i64 (n : Int)) H4'
      have HH4 : Hid (W4.heap[w.heap.size + 1]? = some (.cells #[.int .i64 wd, .int .i64 sz, .slice fa n fc, .bool made, .int .i64 fails, .int .i64 code, .slice none 0 0] 25 (0, 0))) := H4'
      have HH5 : Hid ((W4.setCell ⟨w.heap.size + 1, 1, none⟩ (.int .i64 n)).heap[w.heap.size + 1]? = some (.cells #[.int .i64 wd, .int .i64 n, .slice fa n fc, .bool made, .int .i64 fails, .int .i64 code, .slice none 0 0] 25 (0, 0))) := H5
      clear HY3 H4 H4' H5
      rw [HW4.out]
      cases made with
      | true =>
        go_wp2
        go_ret
        exact FIN.out _ w3 sz W4 HO3.out HB3.out rfl K4.out HH4.out
      | false =>
        go_wp2
        go_ret
        exact FIN.out _ w3 n _ HO3.out HB3.out rfl (K4.out.trans (Kp.setCell (A := fun b => b = w.heap.size + 1) _ _ _ _ rfl)) HH5.out
end Go.Proofs.YtajfcddabkhamaaDoor.sg

namespace Go.Proofs.YtajfcddabkhamaaDoor.bb
open Go.RowKit Go.PlainAid
open Go.Proofs.YtajfcddabkhamaaDoor.ca Go.Proofs.YtajfcddabkhamaaDoor.cb Go.Proofs.YtajfcddabkhamaaDoor.cp Go.Proofs.YtajfcddabkhamaaDoor.ga Go.Proofs.YtajfcddabkhamaaDoor.aa Go.Proofs.YtajfcddabkhamaaDoor.ba
set_option linter.unusedVariables false

theorem three_cells (w : World) (o : Obj) (x y x' y' : Value) (t t' : TypeId) :
    (((w.alloc o).alloc (.cells #[x, y] t)).alloc (.cells #[x', y'] t')).drew.cell? ⟨w.heap.size + 1, 0, none⟩ = some x ∧ (((w.alloc o).alloc (.cells #[x, y] t)).alloc (.cells #[x', y'] t')).drew.cell? ⟨w.heap.size + 1, 1, none⟩ = some y ∧
    (((w.alloc o).alloc (.cells #[x, y] t)).alloc (.cells #[x', y'] t')).drew.cell? ⟨w.heap.size + 1 + 1, 0, none⟩ = some x' ∧ (((w.alloc o).alloc (.cells #[x, y] t)).alloc (.cells #[x', y'] t')).drew.cell? ⟨w.heap.size + 1 + 1, 1, none⟩ = some y' := by
  have s1 : (w.alloc o).heap.size = w.heap.size + 1 := by simp
  have s2 : ((w.alloc o).alloc (.cells #[x, y] t)).heap.size = w.heap.size + 1 + 1 := by simp
  have B : Below ((w.alloc o).alloc (.cells #[x, y] t)).heap.size ((w.alloc o).alloc (.cells #[x, y] t)) ((((w.alloc o).alloc (.cells #[x, y] t)).alloc (.cells #[x', y'] t')).drew) := below_dN ((Below.refl _ _).alloc (Nat.le_refl _) _) 1
  refine ⟨?_, ?_, ?_, ?_⟩
  · refine (B.cell (p := ⟨w.heap.size + 1, 0, none⟩) (by show w.heap.size + 1 < _; rw [s2]; omega)).trans ?_
    rw [← s1, World.cell?_alloc_at _ _ _ _ rfl]; rfl
  · refine (B.cell (p := ⟨w.heap.size + 1, 1, none⟩) (by show w.heap.size + 1 < _; rw [s2]; omega)).trans ?_
    rw [← s1, World.cell?_alloc_at _ _ _ _ rfl]; rfl
  · show (((w.alloc o).alloc (.cells #[x, y] t)).alloc (.cells #[x', y'] t')).cell? _ = _
    rw [← s2, World.cell?_alloc_at _ _ _ _ rfl]; rfl
  · show (((w.alloc o).alloc (.cells #[x, y] t)).alloc (.cells #[x', y'] t')).cell? _ = _
    rw [← s2, World.cell?_alloc_at _ _ _ _ rfl]; rfl
end Go.Proofs.YtajfcddabkhamaaDoor.bb

namespace Go.Proofs.YtajfcddabkhamaaDoor.be
open Go.RowKit Go.PlainAid
open Go.Proofs.YtajfcddabkhamaaDoor.pl Go.Proofs.YtajfcddabkhamaaDoor.pi Go.Proofs.YtajfcddabkhamaaDoor.rf Go.Proofs.YtajfcddabkhamaaDoor.pj Go.Proofs.YtajfcddabkhamaaDoor.ca Go.Proofs.YtajfcddabkhamaaDoor.cb Go.Proofs.YtajfcddabkhamaaDoor.cp Go.Proofs.YtajfcddabkhamaaDoor.cs Go.Proofs.YtajfcddabkhamaaDoor.ct Go.Proofs.YtajfcddabkhamaaDoor.ka Go.Proofs.YtajfcddabkhamaaDoor.kb Go.Proofs.YtajfcddabkhamaaDoor.ga Go.Proofs.YtajfcddabkhamaaDoor.aa Go.Proofs.YtajfcddabkhamaaDoor.ab Go.Proofs.YtajfcddabkhamaaDoor.tb Go.Proofs.YtajfcddabkhamaaDoor.ac Go.Proofs.YtajfcddabkhamaaDoor.ba Go.Proofs.YtajfcddabkhamaaDoor.bb Go.Proofs.YtajfcddabkhamaaDoor.bc Go.Proofs.YtajfcddabkhamaaDoor.bd
set_option linter.unusedVariables false

section
variable {g : Nat} {fb lb : Array Value} {ask : Nat → Nat × Nat → ByteArray × Int} {J : (Nat → Prop) → List (Nat × Nat) → World → Prop} {N : Nat} {D : Nat → Prop}
-- a proof under way: the reader's box rb, the proof's box pb, its row u
structure Gs (R : Rd g fb lb ask J N D) (wd sz : Int) (F0 : Nat → Prop) (w0 : World) (rb pb base : Nat) (acc : List ByteArray) (l : List (Nat × Nat)) (F : Nat → Prop) (u : Value) (wr : World) : Prop where
  j : J F l wr
  go : Goes F0 w0 F wr
  box0 : wr.cell? ⟨rb, 0, none⟩ = some (.int .i64 wd)
  box1 : wr.cell? ⟨rb, 1, none⟩ = some (.int .i64 sz)
  box2 : wr.cell? ⟨rb, 2, none⟩ = some (.func (.func g) fb lb)
  outR : ¬ F rb
  pbox : wr.heap[pb]? = some (.cells #[u] 22 (0, 0))
  outP : ¬ F pb
  own : wr.ownsRow base 9 1 u acc.length (acc.map Value.string)
  bes : Beside F u
  lts : w0.heap.size ≤ rb ∧ w0.heap.size ≤ pb ∧ rb < base ∧ pb < base ∧ rb ≠ pb ∧ base ≤ wr.heap.size
  bx : ∀ b, D b → b < w0.heap.size
theorem Gs.later {R : Rd g fb lb ask J N D} {wd sz : Int} {F0 : Nat → Prop} {w0 : World} {rb pb base : Nat} {acc : List ByteArray} {l : List (Nat × Nat)} {F : Nat → Prop} {u : Value} {wr w' : World} (h : Gs R wd sz F0 w0 rb pb base acc l F u wr) (hb : Below wr.heap.size wr w') : Gs R wd sz F0 w0 rb pb base acc l F u w' :=
  ⟨R.later h.j hb, h.go.trans (Goes.of_below hb), (hb.cell (World.block_lt_of_cell? _ _ h.box0)).trans h.box0, (hb.cell (World.block_lt_of_cell? _ _ h.box1)).trans h.box1, (hb.cell (World.block_lt_of_cell? _ _ h.box2)).trans h.box2, h.outR,
   (hb.block _ (Array.getElem?_eq_some_iff.1 h.pbox).1).trans h.pbox, h.outP, own_later h.own hb, h.bes, ⟨h.lts.1, h.lts.2.1, h.lts.2.2.1, h.lts.2.2.2.1, h.lts.2.2.2.2.1, Nat.le_trans h.lts.2.2.2.2.2 hb.size⟩, h.bx⟩
-- behind what the reader did
theorem Gs.asked {R : Rd g fb lb ask J N D} {wd sz : Int} {F0 : Nat → Prop} {w0 : World} {rb pb base : Nat} {acc : List ByteArray} {l l' : List (Nat × Nat)} {F F' : Nat → Prop} {u : Value} {wr w' : World} (h : Gs R wd sz F0 w0 rb pb base acc l F u wr) (hj : J F' l' w') (hg : Goes F wr F' w') : Gs R wd sz F0 w0 rb pb base acc l' F' u w' := by
  have hlr := World.block_lt_of_cell? _ _ h.box0
  have hlp := (Array.getElem?_eq_some_iff.1 h.pbox).1
  obtain ⟨o1, o2⟩ := hg.owns h.own h.bes
  exact ⟨hj, h.go.trans hg, hg.cell h.box0 h.outR, hg.cell h.box1 h.outR, hg.cell h.box2 h.outR, hg.out hlr h.outR, (hg.1.block _ hlp h.outP).trans h.pbox, hg.out hlp h.outP, o1, o2, ⟨h.lts.1, h.lts.2.1, h.lts.2.2.1, h.lts.2.2.2.1, h.lts.2.2.2.2.1, Nat.le_trans h.lts.2.2.2.2.2 hg.1.size⟩, h.bx⟩
-- behind an append to the row, which is then laid into its box
theorem Gs.grown {R : Rd g fb lb ask J N D} {wd sz : Int} {F0 : Nat → Prop} {w0 : World} {rb pb base : Nat} {acc : List ByteArray} {l : List (Nat × Nat)} {F : Nat → Prop} {u p' : Value} {wr w5 : World} {x : ByteArray} (h : Gs R wd sz F0 w0 rb pb base acc l F u wr)
    (ho : w5.ownsRow base 9 1 p' (acc.length + 1) (acc.map Value.string ++ [.string x])) (hg : wr.grownBy w5 u.ownBlock) (hat : p'.ownBlock = u.ownBlock ∨ p'.ownBlock = some wr.heap.size) : Gs R wd sz F0 w0 rb pb base (acc ++ [x]) l F p' (w5.setCell ⟨pb, 0, none⟩ p') := by
  obtain ⟨j5, g5, b5⟩ := grow_beside R h.j h.go (by have := h.lts; omega) h.bx h.own h.bes hg hat
  obtain ⟨l1, l2, l3, l4, l5, l6⟩ := h.lts
  have old : ∀ b, b < base → w5.heap[b]? = wr.heap[b]? := fun b hb => hg.block b (by omega) (fun e => by have := (owns_lt h.own e.symm).2; omega)
  have hP5 : w5.heap[pb]? = some (.cells #[u] 22 (0, 0)) := (old pb l4).trans h.pbox
  have K : Kp (fun b => b = pb) w5 (w5.setCell ⟨pb, 0, none⟩ p') := Kp.setCell _ _ _ _ rfl
  have cR : ∀ {o : Nat} {v : Value}, wr.cell? ⟨rb, o, none⟩ = some v → (w5.setCell ⟨pb, 0, none⟩ p').cell? ⟨rb, o, none⟩ = some v := fun {o v} hv => K.cell ((World.cell?_of_block (a := ⟨rb, o, none⟩) (old rb l3)).trans hv) l5
  have hpne : ∀ gg, p'.ownBlock = some gg → gg ≠ pb := by
    intro gg hgg e
    have := (owns_lt ho hgg).2
    omega
  refine ⟨R.keep j5 K (fun b e => ⟨e ▸ h.outP, fun hD => by have := h.bx b hD; omega⟩), ⟨⟨g5.1.os, g5.1.tape, g5.1.output, Nat.le_trans g5.1.size K.size, fun k hk hn => (K.block k (Nat.lt_of_lt_of_le hk g5.1.size) (fun e => by omega)).trans (g5.1.block k hk hn)⟩, g5.2⟩, cR h.box0, cR h.box1, cR h.box2, h.outR, ?_, h.outP, ?_, b5, ⟨l1, l2, l3, l4, l5, ?_⟩, h.bx⟩
  · rw [heap_setCell_same _ _ 0 _ _ p' hP5]; rfl
  · rw [List.length_append, List.map_append]
    exact owns_keep ho (fun gg hgg => K.block gg (owns_lt ho hgg).1 (hpne gg hgg))
  · exact Nat.le_trans l6 (Nat.le_trans hg.size K.size)
-- the blocks that a walk writes
def At (pb : Nat) (F : Nat → Prop) (u : Value) : Nat → Prop := fun b => F b ∨ b = pb ∨ u.ownBlock = some b
theorem at_lift {pb : Nat} {F F' : Nat → Prop} {u : Value} {w w' : World} (h : Goes F w F' w') : Goes (At pb F u) w (At pb F' u) w' := by
  refine ⟨h.1.mono (fun k hk => .inl hk), fun b hb => ?_⟩
  rcases hb with hb | hb
  · exact (h.2 b hb).imp .inl id
  · exact .inl (.inr hb)
theorem Gs.lt {R : Rd g fb lb ask J N D} {wd sz : Int} {F0 : Nat → Prop} {w0 : World} {rb pb base : Nat} {acc : List ByteArray} {l : List (Nat × Nat)} {F : Nat → Prop} {u : Value} {wr : World} (h : Gs R wd sz F0 w0 rb pb base acc l F u wr) : ∀ b, At pb F u b → b < wr.heap.size := by
  rintro b (hb | rfl | hb)
  · exact R.within h.j b hb
  · have := h.lts; omega
  · exact (owns_lt h.own hb).1
theorem at_grown {pb : Nat} {F : Nat → Prop} {u p' : Value} {w w5 : World} (hg : w.grownBy w5 u.ownBlock) (hat : p'.ownBlock = u.ownBlock ∨ p'.ownBlock = some w.heap.size) : Goes (At pb F u) w (At pb F p') (w5.setCell ⟨pb, 0, none⟩ p') := by
  have K : Kp (At pb F u) w5 (w5.setCell ⟨pb, 0, none⟩ p') := Kp.setCell _ _ _ _ (.inr (.inl rfl))
  have K0 : Kp (At pb F u) w w5 := ⟨hg.os, hg.tape, hg.output, hg.size, fun k hk hn => hg.block k hk (fun e => hn (.inr (.inr e.symm)))⟩
  refine ⟨K0.trans K, fun b hb => ?_⟩
  rcases hb with hb | hb | hb
  · exact .inl (.inl hb)
  · exact .inl (.inr (.inl hb))
  · rcases hat with h | h
    · exact .inl (.inr (.inr (h ▸ hb)))
    · rw [h] at hb
      obtain rfl := Option.some.inj hb
      exact .inr (Nat.le_refl _)
end
end Go.Proofs.YtajfcddabkhamaaDoor.be

namespace Go.Proofs.YtajfcddabkhamaaDoor.bg
open Go.RowKit Go.PlainAid
open Go.Proofs.YtajfcddabkhamaaDoor.pl Go.Proofs.YtajfcddabkhamaaDoor.pi Go.Proofs.YtajfcddabkhamaaDoor.rf Go.Proofs.YtajfcddabkhamaaDoor.pj Go.Proofs.YtajfcddabkhamaaDoor.ca Go.Proofs.YtajfcddabkhamaaDoor.cb Go.Proofs.YtajfcddabkhamaaDoor.cp Go.Proofs.YtajfcddabkhamaaDoor.cs Go.Proofs.YtajfcddabkhamaaDoor.ct Go.Proofs.YtajfcddabkhamaaDoor.ka Go.Proofs.YtajfcddabkhamaaDoor.kb Go.Proofs.YtajfcddabkhamaaDoor.ga Go.Proofs.YtajfcddabkhamaaDoor.aa Go.Proofs.YtajfcddabkhamaaDoor.ab Go.Proofs.YtajfcddabkhamaaDoor.tb Go.Proofs.YtajfcddabkhamaaDoor.ac Go.Proofs.YtajfcddabkhamaaDoor.ba Go.Proofs.YtajfcddabkhamaaDoor.bb Go.Proofs.YtajfcddabkhamaaDoor.bc Go.Proofs.YtajfcddabkhamaaDoor.bd Go.Proofs.YtajfcddabkhamaaDoor.be
set_option linter.unusedVariables false

-- what a walk does at a part
structure Lk (lg : Nat) (lv : Array Value) (lk : Nat → Nat → Nat) (P : World → Prop) : Prop where
  enter : ∀ args w, (callFunc lg args).run Tryd.prog w = .ok (.enter lg args) w
  call : ∀ (a b : Nat) (w : World), a < b → b ≤ 4611686018427387904 → P w → Calls Tryd.prog lg (#[.agg #[.int .i64 a, .int .i64 b]] ++ lv) w fun e w' => e = .returned (.int .i64 (lk a b : Nat)) ∧ Below w.heap.size w w'
  wide : ∀ a b, a < b → 2 ≤ lk a b → 2 ≤ b - a
  four : ∀ a b, lk a b ≤ 3
section
variable {g : Nat} {fb lb : Array Value} {ask : Nat → Nat × Nat → ByteArray × Int} {J : (Nat → Prop) → List (Nat × Nat) → World → Prop} {N : Nat} {D : Nat → Prop} {lg : Nat} {lv : Array Value} {lk : Nat → Nat → Nat} {P : World → Prop}
def Walked (R : Rd g fb lb ask J N D) (wd sz : Int) (F0 : Nat → Prop) (w0 : World) (rb pb base : Nat) (acc : List ByteArray) (F : Nat → Prop) (u : Value) (w : World) (t : List ByteArray × Int × List (Nat × Nat)) (e : Ending) (w' : World) : Prop :=
  e = .returned (.int .i64 t.2.1) ∧ ∃ F' u' acc', Gs R wd sz F0 w0 rb pb base acc' t.2.2 F' u' w' ∧ (t.2.1 = 0 → acc' = acc ++ t.1) ∧ Goes (At pb F u) w (At pb F' u') w'
theorem two_box (w : World) (x y x' y' : Value) (t t' : TypeId) : ((w.alloc (.cells #[x, y] t)).alloc (.cells #[x', y'] t')).cell? ⟨w.heap.size, 0, none⟩ = some x ∧ ((w.alloc (.cells #[x, y] t)).alloc (.cells #[x', y'] t')).cell? ⟨w.heap.size, 1, none⟩ = some y ∧ ((w.alloc (.cells #[x, y] t)).alloc (.cells #[x', y'] t')).cell? ⟨w.heap.size + 1, 0, none⟩ = some x' ∧ ((w.alloc (.cells #[x, y] t)).alloc (.cells #[x', y'] t')).cell? ⟨w.heap.size + 1, 1, none⟩ = some y' := by
  have s1 : (w.alloc (.cells #[x, y] t)).heap.size = w.heap.size + 1 := by simp
  have B : Below (w.alloc (.cells #[x, y] t)).heap.size (w.alloc (.cells #[x, y] t)) ((w.alloc (.cells #[x, y] t)).alloc (.cells #[x', y'] t')) := (Below.refl _ _).alloc (Nat.le_refl _) _
  refine ⟨?_, ?_, ?_, ?_⟩
  · refine (B.cell (p := ⟨w.heap.size, 0, none⟩) (by show w.heap.size < _; rw [s1]; omega)).trans ?_
    rw [World.cell?_alloc_at _ _ _ _ rfl]; rfl
  · refine (B.cell (p := ⟨w.heap.size, 1, none⟩) (by show w.heap.size < _; rw [s1]; omega)).trans ?_
    rw [World.cell?_alloc_at _ _ _ _ rfl]; rfl
  · rw [← s1, World.cell?_alloc_at _ _ _ _ rfl]; rfl
  · rw [← s1, World.cell?_alloc_at _ _ _ _ rfl]; rfl
end
end Go.Proofs.YtajfcddabkhamaaDoor.bg

namespace Go.Proofs.YtajfcddabkhamaaDoor.bh
open Go.RowKit Go.PlainAid
open Go.Proofs.YtajfcddabkhamaaDoor.pl Go.Proofs.YtajfcddabkhamaaDoor.pi Go.Proofs.YtajfcddabkhamaaDoor.rf Go.Proofs.YtajfcddabkhamaaDoor.pj Go.Proofs.YtajfcddabkhamaaDoor.ca Go.Proofs.YtajfcddabkhamaaDoor.cb Go.Proofs.YtajfcddabkhamaaDoor.cp Go.Proofs.YtajfcddabkhamaaDoor.cs Go.Proofs.YtajfcddabkhamaaDoor.ct Go.Proofs.YtajfcddabkhamaaDoor.ka Go.Proofs.YtajfcddabkhamaaDoor.kb Go.Proofs.YtajfcddabkhamaaDoor.ga Go.Proofs.YtajfcddabkhamaaDoor.aa Go.Proofs.YtajfcddabkhamaaDoor.ab Go.Proofs.YtajfcddabkhamaaDoor.tb Go.Proofs.YtajfcddabkhamaaDoor.ac Go.Proofs.YtajfcddabkhamaaDoor.ba Go.Proofs.YtajfcddabkhamaaDoor.bb Go.Proofs.YtajfcddabkhamaaDoor.bc Go.Proofs.YtajfcddabkhamaaDoor.bd Go.Proofs.YtajfcddabkhamaaDoor.be Go.Proofs.YtajfcddabkhamaaDoor.bg
set_option linter.unusedVariables false

-- what is refused ahead of all
def chk (sz n : Int) : Int := if sz < 0 ∨ 4611686018427387904 < sz then 10 else if n < 0 ∨ sz < n then 80 else 0
theorem chk_ok {sz n : Int} (h : chk sz n = 0) : 0 ≤ sz ∧ sz ≤ 4611686018427387904 ∧ 0 ≤ n ∧ n ≤ sz := by
  unfold chk at h
  by_cases h1 : sz < 0 ∨ 4611686018427387904 < sz
  · rw [if_pos h1] at h; omega
  · rw [if_neg h1] at h
    by_cases h2 : n < 0 ∨ sz < n
    · rw [if_pos h2] at h; omega
    · omega
theorem eqF0 (d g : Nat) (fb lb : Array Value) (w : World) : (Op.equalIn (d + 1) 33 (.func (.func g) fb lb) .nilFunc).run Tryd.prog w = .ok false w := by
  simp [Op.equalIn, run_underlying Tryd.underlying33]
theorem eqF (g : Nat) (fb lb : Array Value) (w : World) : (binOp .eql 33 (.func (.func g) fb lb) .nilFunc).run Tryd.prog w = .ok (.bool false) w := by
  simp only [binOp]
  simp [Op.equal, Op.maxDepth, eqF0 9999 g fb lb w]
theorem eqF1 (d : Nat) (w : World) : (Op.equalIn (d + 1) 33 .nilFunc .nilFunc).run Tryd.prog w = .ok true w := by
  simp [Op.equalIn, run_underlying Tryd.underlying33]
theorem eqFn (w : World) : (binOp .eql 33 .nilFunc .nilFunc).run Tryd.prog w = .ok (.bool true) w := by
  simp only [binOp]
  simp [Op.equal, Op.maxDepth, eqF1 9999 w]
section
variable {g : Nat} {fb lb : Array Value} {ask : Nat → Nat × Nat → ByteArray × Int} {J : (Nat → Prop) → List (Nat × Nat) → World → Prop} {N : Nat} {D : Nat → Prop} {lg : Nat} {lv : Array Value} {lk : Nat → Nat → Nat} {P : World → Prop}
def ans (t : List ByteArray × Int × List (Nat × Nat)) : List ByteArray := if t.2.1 = 0 then t.1 else []
-- a proof and an error; the reader goes on
def Proved (J : (Nat → Prop) → List (Nat × Nat) → World → Prop) (F : Nat → Prop) (w : World) (t : List ByteArray × Int × List (Nat × Nat)) (e : Ending) (w' : World) : Prop :=
  ∃ u F', e = .returned (.tuple #[u, .int .i64 t.2.1]) ∧ w'.ownsRow w.heap.size 9 1 u (ans t).length ((ans t).map Value.string) ∧ J F' t.2.2 w' ∧ Goes F w F' w' ∧ Beside F' u
end
end Go.Proofs.YtajfcddabkhamaaDoor.bh

namespace Go.Proofs.YtajfcddabkhamaaDoor.sh
open Go.RowKit Go.PlainAid Go.Shelf
open Go.Proofs.YtajfcddabkhamaaDoor.pl Go.Proofs.YtajfcddabkhamaaDoor.pi Go.Proofs.YtajfcddabkhamaaDoor.rf Go.Proofs.YtajfcddabkhamaaDoor.pj Go.Proofs.YtajfcddabkhamaaDoor.ca Go.Proofs.YtajfcddabkhamaaDoor.cb Go.Proofs.YtajfcddabkhamaaDoor.cp Go.Proofs.YtajfcddabkhamaaDoor.cs Go.Proofs.YtajfcddabkhamaaDoor.xc Go.Proofs.YtajfcddabkhamaaDoor.ka Go.Proofs.YtajfcddabkhamaaDoor.kb Go.Proofs.YtajfcddabkhamaaDoor.ga Go.Proofs.YtajfcddabkhamaaDoor.aa Go.Proofs.YtajfcddabkhamaaDoor.ab Go.Proofs.YtajfcddabkhamaaDoor.tb Go.Proofs.YtajfcddabkhamaaDoor.ac Go.Proofs.YtajfcddabkhamaaDoor.bc Go.Proofs.YtajfcddabkhamaaDoor.bd Go.Proofs.YtajfcddabkhamaaDoor.bh Go.Proofs.YtajfcddabkhamaaDoor.sa Go.Proofs.YtajfcddabkhamaaDoor.sb Go.Proofs.YtajfcddabkhamaaDoor.sc Go.Proofs.YtajfcddabkhamaaDoor.sd Go.Proofs.YtajfcddabkhamaaDoor.se Go.Proofs.YtajfcddabkhamaaDoor.sf Go.Proofs.YtajfcddabkhamaaDoor.sg
set_option linter.unusedVariables false

theorem box_and_box (w : World) (x y z u : Value) (t t' : TypeId) : ((w.alloc (.cells #[x, y, z] t)).alloc (.cells #[u] t')).drew.cell? ⟨w.heap.size, 0, none⟩ = some x ∧ ((w.alloc (.cells #[x, y, z] t)).alloc (.cells #[u] t')).drew.cell? ⟨w.heap.size, 1, none⟩ = some y ∧ ((w.alloc (.cells #[x, y, z] t)).alloc (.cells #[u] t')).drew.cell? ⟨w.heap.size, 2, none⟩ = some z ∧ ((w.alloc (.cells #[x, y, z] t)).alloc (.cells #[u] t')).drew.cell? ⟨w.heap.size + 1, 0, none⟩ = some u := by
  have h3 := three_box w x y z t
  have s1 : (w.alloc (.cells #[x, y, z] t)).heap.size = w.heap.size + 1 := by simp
  have B : Below (w.alloc (.cells #[x, y, z] t)).heap.size (w.alloc (.cells #[x, y, z] t)) ((w.alloc (.cells #[x, y, z] t)).alloc (.cells #[u] t')).drew := below_dN ((Below.refl _ _).alloc (Nat.le_refl _) _) 1
  refine ⟨(B.cell (World.block_lt_of_cell? _ _ h3.1)).trans h3.1, (B.cell (World.block_lt_of_cell? _ _ h3.2.1)).trans h3.2.1, (B.cell (World.block_lt_of_cell? _ _ h3.2.2)).trans h3.2.2, ?_⟩
  show ((w.alloc (.cells #[x, y, z] t)).alloc (.cells #[u] t')).cell? _ = _
  rw [← s1, World.cell?_alloc_at _ _ _ _ rfl]; rfl
def Readers (s : Src) (sb : Nat) (lv : Value) (base : Nat) (w : World) (F : Nat → Prop) (l : List (Nat × Nat)) (e : Ending) (w' : World) : Prop := (∃ tb, e = .returned (.agg #[.int .i64 s.wd, .int .i64 s.sz, .func (.func 14) #[.pointer (some ⟨tb, 0, none⟩)] #[]]) ∧ TJ s sb lv base tb F l w') ∧ Below w.heap.size w w'
theorem readerS (s : Src) (sb : Nat) (lv : Value) (base : Nat) (F : Nat → Prop) (l : List (Nat × Nat)) (w : World) (hcd : i64 s.code) (hS : SJ s sb lv base F l w) :
    Calls Tryd.prog 6 #[.pointer (some ⟨sb, 0, none⟩)] w (Readers s sb lv base w F l) := by
  obtain ⟨k0, k1⟩ := SJ.cells hS
  have HJ : Hid (SJ s sb lv base F l w) := hS
  have HC : Hid (i64 s.code) := hcd
  unfold Readers
  obtain ⟨wd, HWD⟩ : ∃ x, Hid (s.wd = x) := ⟨_, rfl⟩
  obtain ⟨sz, HSZ⟩ : ∃ x, Hid (s.sz = x) := ⟨_, rfl⟩
  rw [HWD.out] at k0 ⊢
  rw [HSZ.out] at k1 ⊢
  obtain ⟨R0, HR0⟩ : ∃ R0, Hid (.cells #[.int .i64 0, .int .i64 0, .nilFunc] 35 = (R0 : Obj)) := ⟨_, rfl⟩
  have B0 : Hid (∀ o : Obj, Below w.heap.size w ((w.alloc o).alloc (.cells #[.pointer (some ⟨sb, 0, none⟩)] 50))) := fun o => ((Below.refl _ _).alloc (Nat.le_refl _) _).alloc (by simp) _
  have j0 := ((B0.out (.cells #[.int .i64 0, .int .i64 0, .nilFunc] 35)).cell (World.block_lt_of_cell? _ _ k0)).trans k0
  have j1 := ((B0.out (.cells #[.int .i64 0, .int .i64 0, .nilFunc] 35)).cell (World.block_lt_of_cell? _ _ k1)).trans k1
  have G : Hid (_ ∧ _ ∧ _ ∧ _) := box_and_box w (.int .i64 wd) (.int .i64 sz) (.func (.func 14) #[.pointer (some ⟨w.heap.size + 1, 0, none⟩)] #[]) (.pointer (some ⟨sb, 0, none⟩)) 35 50
  have B1 : Hid (Below w.heap.size w ((w.alloc (.cells #[.int .i64 wd, .int .i64 sz, .func (.func 14) #[.pointer (some ⟨w.heap.size + 1, 0, none⟩)] #[]] 35)).alloc (.cells #[.pointer (some ⟨sb, 0, none⟩)] 50)).drew) := below_dN (B0.out _) 1
  clear hS hcd
  go_enter Tryd.func6, Tryd.ntmps6
  go_wp2
  go_region
  all_goals (
    go_wp2
    (try simp only [Exit.inBlock, Exit.then])
    refine bodyPost_ret (by simp [results, Tryd.results6, go_sem, G.out.1, G.out.2.1, G.out.2.2.1]; try rfl) rfl ?_
    exact ⟨⟨w.heap.size + 1, rfl, (srcR s sb lv base HC.out).later HJ.out B1.out, G.out.2.2.2, fun hF => by have := (srcR s sb lv base HC.out).within HJ.out _ hF; omega⟩, B1.out⟩)
-- two sources that were asked for the same
theorem eqA (a b x y : Int) (w : World) : (binOp .neq 57 (.agg #[.int .i64 a, .int .i64 b]) (.agg #[.int .i64 x, .int .i64 y])).run Tryd.prog w = .ok (.bool (!(a == x && b == y))) w := by
  by_cases h1 : a = x <;> by_cases h2 : b = y <;> simp [go_sem, h1, h2]
end Go.Proofs.YtajfcddabkhamaaDoor.sh

namespace Go.Proofs.YtajfcddabkhamaaDoor.sp
open Go.RowKit Go.PlainAid Go.Shelf
open Go.Proofs.YtajfcddabkhamaaDoor.pl Go.Proofs.YtajfcddabkhamaaDoor.pi Go.Proofs.YtajfcddabkhamaaDoor.rf Go.Proofs.YtajfcddabkhamaaDoor.pj Go.Proofs.YtajfcddabkhamaaDoor.ca Go.Proofs.YtajfcddabkhamaaDoor.cb Go.Proofs.YtajfcddabkhamaaDoor.cp Go.Proofs.YtajfcddabkhamaaDoor.cs Go.Proofs.YtajfcddabkhamaaDoor.xc Go.Proofs.YtajfcddabkhamaaDoor.ka Go.Proofs.YtajfcddabkhamaaDoor.kb Go.Proofs.YtajfcddabkhamaaDoor.ga Go.Proofs.YtajfcddabkhamaaDoor.aa Go.Proofs.YtajfcddabkhamaaDoor.ab Go.Proofs.YtajfcddabkhamaaDoor.tb Go.Proofs.YtajfcddabkhamaaDoor.ac Go.Proofs.YtajfcddabkhamaaDoor.bc Go.Proofs.YtajfcddabkhamaaDoor.bd Go.Proofs.YtajfcddabkhamaaDoor.bh Go.Proofs.YtajfcddabkhamaaDoor.sa Go.Proofs.YtajfcddabkhamaaDoor.sb Go.Proofs.YtajfcddabkhamaaDoor.sc Go.Proofs.YtajfcddabkhamaaDoor.sd Go.Proofs.YtajfcddabkhamaaDoor.se Go.Proofs.YtajfcddabkhamaaDoor.sf Go.Proofs.YtajfcddabkhamaaDoor.sg Go.Proofs.YtajfcddabkhamaaDoor.sh
set_option linter.unusedVariables false

-- two sources side by side
structure Two (s : Src) (sb : Nat) (lv : Value) (base : Nat) (sb' : Nat) (lv' : Value) (base' : Nat) (F F' : Nat → Prop) (l l' : List (Nat × Nat)) (w : World) : Prop where
  a : SJ s sb lv base F l w
  b : SJ s sb' lv' base' F' l' w
  ab : ∀ b, F b → ¬ F' b
  da : ∀ b, F' b → ¬ Dp lv b
  db : ∀ b, F b → ¬ Dp lv' b
theorem Two.later {s : Src} {sb : Nat} {lv : Value} {base : Nat} {sb' : Nat} {lv' : Value} {base' : Nat} {F F' : Nat → Prop} {l l' : List (Nat × Nat)} {w w' : World} (hcd : i64 s.code) (h : Two s sb lv base sb' lv' base' F F' l l' w) (hb : Below w.heap.size w w') : Two s sb lv base sb' lv' base' F F' l l' w' :=
  ⟨(srcR s sb lv base hcd).later h.a hb, (srcR s sb' lv' base' hcd).later h.b hb, h.ab, h.da, h.db⟩
theorem Two.left {s : Src} {sb : Nat} {lv : Value} {base : Nat} {sb' : Nat} {lv' : Value} {base' : Nat} {F F' F2 : Nat → Prop} {l l' l2 : List (Nat × Nat)} {w w' : World} (hcd : i64 s.code) (h : Two s sb lv base sb' lv' base' F F' l l' w) (hg : Goes F w F2 w') (hj : SJ s sb lv base F2 l2 w') : Two s sb lv base sb' lv' base' F2 F' l2 l' w' := by
  refine ⟨hj, (srcR s sb' lv' base' hcd).keep h.b hg.1 (fun b hb => ⟨h.ab b hb, h.db b hb⟩), fun b hb hf => ?_, h.da, fun b hb hd => ?_⟩
  · rcases hg.2 b hb with g | g
    · exact h.ab b g hf
    · have := (srcR s sb' lv' base' hcd).within h.b b hf; omega
  · rcases hg.2 b hb with g | g
    · exact h.db b g hd
    · have := (srcR s sb' lv' base' hcd).big h.b b hd; omega
theorem Two.right {s : Src} {sb : Nat} {lv : Value} {base : Nat} {sb' : Nat} {lv' : Value} {base' : Nat} {F F' F2 : Nat → Prop} {l l' l2 : List (Nat × Nat)} {w w' : World} (hcd : i64 s.code) (h : Two s sb lv base sb' lv' base' F F' l l' w) (hg : Goes F' w F2 w') (hj : SJ s sb' lv' base' F2 l2 w') : Two s sb lv base sb' lv' base' F F2 l l2 w' := by
  refine ⟨(srcR s sb lv base hcd).keep h.a hg.1 (fun b hb => ⟨fun hf => h.ab b hf hb, h.da b hb⟩), hj, fun b hf hb => ?_, fun b hb hd => ?_, h.db⟩
  · rcases hg.2 b hb with g | g
    · exact h.ab b hf g
    · have := (srcR s sb lv base hcd).within h.a b hf; omega
  · rcases hg.2 b hb with g | g
    · exact h.da b g hd
    · have := (srcR s sb lv base hcd).big h.a b hd; omega
-- the two twins
theorem two_of {s : Src} {w w1 w2 : World} {sb sb' : Nat} {lv lv' : Value} (hcd : i64 s.code) (hlt : w1.heap.size ≤ sb') (hlv : ∀ b off n c, lv' = .slice (some ⟨b, off, none⟩) n c → w1.heap.size ≤ b)
    (h1 : Sj s sb lv w1.heap.size (.slice none 0 0) (fun b => b = sb) [] w1) (h2 : Sj s sb' lv' w2.heap.size (.slice none 0 0) (fun b => b = sb') [] w2) (hb : Below w1.heap.size w1 w2) : Two s sb lv w1.heap.size sb' lv' w2.heap.size (fun b => b = sb) (fun b => b = sb') [] [] w2 := by
  have l1 := h1.q.o.lt
  refine ⟨(srcR s sb lv _ hcd).later ⟨_, h1⟩ hb, ⟨_, h2⟩, fun b e1 e2 => by omega, fun b e1 hd => ?_, fun b e1 hd => ?_⟩
  · have := h1.dep b hd; omega
  · subst e1
    rcases hd with hd | ⟨off, n, c, he⟩
    · have := h1.sbq; omega
    · have := hlv _ off n c he; omega
-- over a world w0: nothing that was there has turned
def Over (w0 : World) (F F' : Nat → Prop) (w : World) : Prop := Below w0.heap.size w0 w ∧ (∀ b, F b → w0.heap.size ≤ b) ∧ (∀ b, F' b → w0.heap.size ≤ b)
theorem Over.later {w0 w w' : World} {F F' : Nat → Prop} (h : Over w0 F F' w) (hb : Below w.heap.size w w') : Over w0 F F' w' := ⟨over h.1 hb, h.2⟩
theorem Over.left {w0 w w' : World} {F F' F2 : Nat → Prop} (h : Over w0 F F' w) (hg : Goes F w F2 w') : Over w0 F2 F' w' :=
  ⟨h.1.trans (hg.1.below h.2.1 h.1.size), fun b hb => (hg.2 b hb).elim (h.2.1 b) (fun g => Nat.le_trans h.1.size g), h.2.2⟩
theorem Over.right {w0 w w' : World} {F F' F2 : Nat → Prop} (h : Over w0 F F' w) (hg : Goes F' w F2 w') : Over w0 F F2 w' :=
  ⟨h.1.trans (hg.1.below h.2.2 h.1.size), h.2.1, fun b hb => (hg.2 b hb).elim (h.2.2 b) (fun g => Nat.le_trans h.1.size g)⟩
end Go.Proofs.YtajfcddabkhamaaDoor.sp
