import Derived.Test.YtajfcddabkhamaaDoorY3
import Derived.ArgAppend
import Derived.Laws.IdiomStrings
import Derived.Test.YtajfcddabkhamaaDoorRows
import Derived.Test.YtajfcddabkhamaaDoorY2
import Derived.ProofKit
import Derived.LaidMore
import Derived.OpenShut
import Derived.Stop.Joined
import Derived.Lib.LaidTab
import Derived.Lib.BitFns
import Derived.Lib.TrailingZeros
import Derived.PlainAid
import Derived.Laws.BitsAllLaws
import Derived.WalkKit
import Derived.Test.YtajfcddabkhamaaDoorY1
import Derived.Test.YtajfcddabkhamaaDoorProg
import Derived.WalkSpells
namespace Go.Proofs.YtajfcddabkhamaaDoor.rc
open Go.RowKit Go.PlainAid
open Go.Proofs.YtajfcddabkhamaaDoor.pl Go.Proofs.YtajfcddabkhamaaDoor.pd Go.Proofs.YtajfcddabkhamaaDoor.pf Go.Proofs.YtajfcddabkhamaaDoor.ra Go.Proofs.YtajfcddabkhamaaDoor.rb
set_option linter.unusedVariables false

-- a slice of bytes of our own, by its cells
structure OwnM (w : World) (base : Nat) (v : Value) (n : Nat) (ns : List Int) : Prop where
  len : ns.length = n
  ex : ∃ g cap, v = .slice (some ⟨g, 0, none⟩) n cap ∧ base ≤ g ∧ g < w.heap.size ∧ (∀ j, j < n → w.cell? ⟨g, j, none⟩ = some (.int .u8 (ns.getD j 0))) ∧ (∀ j, n ≤ j → j < cap → (w.cell? ⟨g, j, none⟩).isSome = true ∧ w.frozen? ⟨g, j, none⟩ = false)

theorem OwnM.alloc {w : World} {base : Nat} {v : Value} {n : Nat} {ns : List Int} (h : OwnM w base v n ns) (o : Obj) : OwnM (w.alloc o) base v n ns := by
  obtain ⟨hl, g, cap, rfl, hb, hg, h1, h2⟩ := h
  refine ⟨hl, g, cap, rfl, hb, by simp; omega, fun j hj => ?_, fun j ha hc => ?_⟩
  · rw [World.cell?_alloc_lt _ _ _ hg]; exact h1 j hj
  · rw [World.cell?_alloc_lt _ _ _ hg, World.frozen?_alloc_past _ _ _ hg]; exact h2 j ha hc

theorem append_mark {ops : Array Oper} {rest : List Oper} {o : Oper} {a : Act} {w : World} {Q : Exit → Act → World → Prop} (hgd : o.guard = none) (s x : Operand)
    (ho : o.op = .call { callee := .builtin .append, args := #[s, x], argTypes := #[65, 65] }) (base : Nat) (v : Value) (n : Nat) (ns : List Int) (hs : a.eval s = v) (hown : OwnM w base v n ns)
    (ad : Addr) (c : Nat) (u : Int) (hx : a.eval x = .slice (some ad) 1 c) (hu : w.cell? ad = some (.int .u8 u)) (hn : n + 1 ≤ 140737488355328) (hbase : base ≤ w.heap.size)
    (h : ∀ v' w', OwnM w' base v' (n + 1) (ns ++ [u]) → Below base w w' → wpList Tryd.prog ops Q rest (a.put o.dst v') w') : wpList Tryd.prog ops Q (o :: rest) a w := by
  obtain ⟨hl, g, cap, rfl, hb, hg, h1, h2⟩ := hown
  obtain ⟨i5, hi, hz0, hz1, hz2⟩ := info_parts info5
  refine wpList_append_arg w hgd s x 65 ho 5 i5 (.int .u8 0) 1 1 Tryd.underlying65 hi hz0 hz1 hz2 rfl (by decide) g 0 n cap (ns.map (Value.int .u8)) hs (by simp [hl]) ?_ ad 1 c [.int .u8 u] hx rfl ?_ ?_ ?_ (by unfold maxLen; omega) (by omega) ?_ ?_
  · intro j z hj
    have hjl : j < ns.length := by simpa using (List.getElem?_eq_some_iff.1 hj).1
    rw [Nat.zero_add, h1 j (by omega), ← hj]
    simp [List.getD, hjl]
  · intro j z hj
    match j, hj with
    | 0, hj =>
      have e : ad.add 0 = ad := by simp [Addr.add]
      rw [e, hu]; exact hj
  · intro z hz
    simp at hz
    subst hz; rfl
  · intro hr j hj
    have : j = 0 := by simpa using hj
    subst this
    have := h2 n (Nat.le_refl _) (by omega)
    simpa using this
  · intro hr
    have e : w.setCells g (0 + n * 1) [.int .u8 u] = w.setCell ⟨g, n, none⟩ (.int .u8 u) := by simp [World.setCells]
    rw [e]
    refine h _ _ ⟨by simp [hl], g, cap, rfl, hb, by simpa [World.setCell] using hg, fun j hj => ?_, fun j ha hc => ?_⟩ ((Below.refl _ _).setCell hb _)
    · rcases Nat.lt_or_ge j n with hj1 | hj1
      · rw [World.cell?_setCell_other _ _ _ _ (by intro hh; injection hh with _ hh2 _; omega), h1 j hj1, List.getD, List.getD, List.getElem?_append_left (by omega)]
      · have hj2 : j = n := by omega
        subst hj2
        obtain ⟨y, hy⟩ := Option.isSome_iff_exists.1 (h2 j (Nat.le_refl _) (by omega)).1
        rw [World.cell?_setCell_same _ _ _ hy, List.getD, List.getElem?_append_right (by omega), hl]
        simp
    · have := h2 j (by omega) hc
      refine ⟨?_, ?_⟩
      · rw [World.cell?_setCell_other _ _ _ _ (by intro hh; injection hh with _ hh2 _; omega)]; exact this.1
      · rw [World.frozen?_setCell]; exact this.2
  · intro hc v' w' hown' hgrow
    obtain ⟨hl2, hh | ⟨g2, cap2, cur, rfl, hb2, hh2, k1, k2, k3, k4⟩⟩ := hown'
    · omega
    · refine h _ _ ⟨by simp [hl], g2, cap2, rfl, by omega, (Array.getElem?_eq_some_iff.1 hh2).1, fun j hj => ?_, fun j ha hcj => ?_⟩ ((Below.refl _ _).grown hgrow hbase (fun k hk => by cases hk))
      · rw [cell_of_row _ _ _ _ _ _ hh2, ← Array.getElem?_toList]
        have e1 : cur.toList[j]? = (cur.toList.take ((n + 1) * 1))[j]? := by rw [List.getElem?_take, if_pos (by omega)]
        rw [e1, k4]
        have e2 : ns.map (Value.int .u8) ++ [Value.int .u8 u] = (ns ++ [u]).map (Value.int .u8) := by simp
        rw [e2, List.getElem?_map]
        have hjl : j < (ns ++ [u]).length := by simp; omega
        simp [List.getD, List.getElem?_eq_getElem hjl]
      · refine ⟨?_, frozen_of_row _ _ _ _ _ hh2⟩
        rw [cell_of_row _ _ _ _ _ _ hh2, Array.getElem?_eq_getElem (by omega)]
        rfl

-- []byte(s)
theorem of_string (w : World) (s : ByteArray) (hs : s.size ≤ 140737488352256) : ∃ v w', (convert 9 65 (.string s)).run Tryd.prog w = .ok v w' ∧ OwnM w' w.heap.size v s.size (btL s s.size) ∧ Below w.heap.size w w' := by
  refine ⟨_, _, run_bytes_of_string w 9 65 5 s Tryd.underlying9 Tryd.underlying65 Tryd.underlying5, ⟨btL_length _ _, _, _, rfl, Nat.le_refl _, by simp, fun j hj => ?_, fun j ha hc => ?_⟩, ((Below.refl _ _).drew).alloc (Nat.le_refl _) _⟩
  · have hh : (w.drew.alloc (.cells (bytesRow s (grownCap w s.size 0 5)) 5 ((bytesRow s (grownCap w s.size 0 5)).size, (bytesRow s (grownCap w s.size 0 5)).size + 1))).heap[w.heap.size]? = some (.cells (bytesRow s (grownCap w s.size 0 5)) 5 ((bytesRow s (grownCap w s.size 0 5)).size, (bytesRow s (grownCap w s.size 0 5)).size + 1)) := heap_alloc_new w.drew _
    rw [cell_of_row _ _ _ _ _ _ hh, bytesRow, Array.getElem?_append_left (by simpa using hj), btL_get _ _ _ hj]
    have hj' : j < s.data.size := hj
    rw [Array.getElem?_map, Array.getElem?_eq_getElem hj']
    simp only [Option.map_some]
    rw [← get_bt s j hj]
    rfl
  · have hh : (w.drew.alloc (.cells (bytesRow s (grownCap w s.size 0 5)) 5 ((bytesRow s (grownCap w s.size 0 5)).size, (bytesRow s (grownCap w s.size 0 5)).size + 1))).heap[w.heap.size]? = some (.cells (bytesRow s (grownCap w s.size 0 5)) 5 ((bytesRow s (grownCap w s.size 0 5)).size, (bytesRow s (grownCap w s.size 0 5)).size + 1)) := heap_alloc_new w.drew _
    have hsz : (bytesRow s (grownCap w s.size 0 5)).size = grownCap w s.size 0 5 := by
      have := grownCap_ge w s.size 0 5
      have e : s.data.size = s.size := rfl
      simp [bytesRow, e]; omega
    refine ⟨?_, ?_⟩
    · rw [cell_of_row _ _ _ _ _ _ hh, Array.getElem?_eq_getElem (by omega)]; rfl
    · unfold World.frozen?
      rw [hh]
      simp only [hsz]
      simp; omega
end Go.Proofs.YtajfcddabkhamaaDoor.rc

namespace Go.Proofs.YtajfcddabkhamaaDoor.rd
open Go.RowKit Go.PlainAid
open Go.Proofs.YtajfcddabkhamaaDoor.pl Go.Proofs.YtajfcddabkhamaaDoor.pd Go.Proofs.YtajfcddabkhamaaDoor.pf Go.Proofs.YtajfcddabkhamaaDoor.ra Go.Proofs.YtajfcddabkhamaaDoor.rb Go.Proofs.YtajfcddabkhamaaDoor.rc
set_option linter.unusedVariables false

theorem one_new (W : World) (u : Value) (t : TypeId) : (W.alloc (.cells #[u] t)).cell? ⟨W.heap.size, 0, none⟩ = some u := by
  rw [World.cell?_alloc_at _ _ _ _ rfl]; rfl

def lenV : Value → Nat | .slice _ n _ => n | _ => 0

def upL (s : ByteArray) (k : Nat) : List Int := btL s s.size ++ (128 :: List.replicate k 0)
theorem upL_next (s : ByteArray) (k : Nat) : upL s k ++ [0] = upL s (k + 1) := by simp [upL, List.replicate_succ']
def fullL (s : ByteArray) (z : Nat) (c : Int) (i : Nat) : List Int := upL s z ++ (lowB c 8).take i
theorem lowB_at (c : Int) : ∀ i, i < 8 → (lowB c 8)[i]? = some (c / 256 ^ (7 - i) % 256)
  | 0, _ => rfl
  | 1, _ => rfl
  | 2, _ => rfl
  | 3, _ => rfl
  | 4, _ => rfl
  | 5, _ => rfl
  | 6, _ => rfl
  | 7, _ => rfl
theorem fullL_next (s : ByteArray) (z : Nat) (c u : Int) (i : Nat) (hi : i < 8) (hu : u = c / 256 ^ (7 - i) % 256) : fullL s z c i ++ [u] = fullL s z c (i + 1) := by
  rw [fullL, fullL, List.append_assoc, List.take_add_one, lowB_at c i hi, hu]
  rfl
theorem pow_back (i : Nat) (h : i < 8) : (2 : Int) ^ (56 - 8 * i) = 256 ^ (7 - i) := by
  rw [show 56 - 8 * i = 8 * (7 - i) by omega, pow256]

theorem lowB_rng (c : Int) (k : Nat) : ∀ x ∈ lowB c k, 0 ≤ x ∧ x ≤ 255 := by
  induction k with
  | zero => intro x hx; cases hx
  | succ k ih =>
    intro x hx
    rcases List.mem_cons.1 hx with rfl | h
    · omega
    · exact ih x h
theorem padL_rng (n : Nat) : ∀ x ∈ padL n, 0 ≤ x ∧ x ≤ 255 := by
  intro x hx
  rcases List.mem_cons.1 hx with rfl | h
  · omega
  · rcases List.mem_append.1 h with h | h
    · have := (List.mem_replicate.1 h).2; omega
    · exact lowB_rng _ _ x h
theorem pad_at (s : ByteArray) (i : Nat) (hi : i < (padB s).size) : (btL s s.size ++ padL s.size).getD i 0 = bt (padB s) i := by
  rcases Nat.lt_or_ge i s.size with h | h
  · rw [padB, bt_append_left _ _ _ h, List.getD, List.getElem?_append_left (by rw [btL_length]; exact h)]
    exact btL_get s s.size i h
  · obtain ⟨j, rfl⟩ : ∃ j, i = s.size + j := ⟨i - s.size, by omega⟩
    have hj : j < (padL s.size).length := by
      rw [padB, ByteArray.size_append, str_size] at hi; omega
    have hr := padL_rng s.size _ (List.getElem_mem hj)
    rw [padB, bt_append_right, str_bt _ _ hj hr.1 hr.2, List.getD, List.getElem?_append_right (by rw [btL_length]; omega), btL_length, Nat.add_sub_cancel_left, List.getElem?_eq_getElem hj]
    rfl

set_option maxHeartbeats 1600000 in
theorem padded (s : ByteArray) (w : World) (hs : s.size ≤ 140737488352256) :
    Calls Tryd.prog 54 #[.string s] w fun e w' => ∃ g cap, e = .returned (.slice (some ⟨g, 0, none⟩) (64 * padN s.size) cap) ∧ Below w.heap.size w w' ∧ Bytes w' g 0 (64 * padN s.size) (bt (padB s)) := by
  obtain ⟨v, w1, hcv, ho1, hb1⟩ := of_string w s hs
  have HO1 : Hid (OwnM _ _ _ _ _) := ho1
  have HB1 : Hid (Below _ _ _) := hb1
  clear ho1 hb1
  obtain ⟨z, HZ⟩ : ∃ z, Hid (z = zerosF s.size) := ⟨_, rfl⟩
  have hz : z < 64 := by have := HZ.out; rw [this]; unfold zerosF; omega
  have HZ2 : Hid (∀ k, k < z → (s.size + 1 + k) % 64 ≠ 56) := fun k hk => by have h1 := HZ.out; unfold zerosF at h1; omega
  have HZ3 : Hid ((s.size + 1 + z) % 64 = 56) := by show _ = _; have h1 := HZ.out; unfold zerosF at h1; omega
  go_enter Tryd.func54, Tryd.ntmps54
  go_wp2_with (at_builtin; refine append_mark rfl (.tmp 8) (.tmp 9) rfl w.heap.size v s.size _ rfl (HO1.out.alloc _) ⟨w1.heap.size, 0, none⟩ 1 128 rfl (one_new _ _ _) (by omega) (by have := HB1.out.size; simp; omega) ?_; intro v' w2 ho2 hb2; have HO2 : Hid (OwnM _ _ _ _ _) := ho2; have HB2 : Hid (Below w.heap.size w w2) := (HB1.out.alloc HB1.out.size _).trans hb2; clear ho2 hb2)
  go_loopw [3] (fun b wr => ∃ k : Nat, k ≤ z ∧ OwnM wr w.heap.size b (s.size + 1 + k) (upL s k) ∧ Below w.heap.size w wr) (fun b _ => s.size + 1 + z - lenV b)
  case atStart => exact ⟨0, by omega, HO2.out, HB2.out⟩
  case round =>
    clear hcv HO1 HB1 HO2 HB2
    obtain ⟨k, hk, hown, hbel⟩ := hrel
    have HOWN : Hid (OwnM _ _ _ _ _) := hown
    have HBEL : Hid (Below _ _ _) := hbel
    obtain ⟨m, HM⟩ : ∃ m, Hid (m = s.size + 1 + k) := ⟨_, rfl⟩
    rw [← HM.out] at HOWN
    clear hown hbel
    obtain ⟨hl, g, cap, rfl, hbg, hg, h1, h2⟩ := HOWN.out
    clear hl h1 h2
    have hmb : m ≤ 140737488352256 + 100 := by have := HM.out; omega
    by_cases hlt : k < z
    · have hq : m % 64 ≠ 56 := by have := HM.out; have := HZ2.out k hlt; rw [‹m = s.size + 1 + k›]; exact this
      have q1 : ((m : Int) % 64 != 56) = true := by rw [bne_iff_ne]; omega
      have q2 : ((m : Int).tmod 64 != 56) = true := by rw [Int.tmod_eq_emod_of_nonneg (by omega)]; exact q1
      have HQ : Hid _ := hq
      clear hq
      go_wp2_with (at_builtin; refine append_mark rfl (.tmp 15) (.tmp 16) rfl w.heap.size _ m _ rfl (HOWN.out.alloc _) ⟨wr.heap.size, 0, none⟩ 1 0 rfl (one_new _ _ _) (by omega) (by have := HBEL.out.size; simp; omega) ?_; intro v' w2 ho2 hb2; have HO2 : Hid (OwnM _ _ _ _ _) := ho2; have HB2 : Hid (Below w.heap.size w w2) := (HBEL.out.alloc HBEL.out.size _).trans hb2; clear ho2 hb2)
      go_roundw
      case rel =>
        refine ⟨k + 1, by omega, ?_, HB2.out⟩
        rw [← upL_next, show s.size + 1 + (k + 1) = m + 1 by have := HM.out; omega]
        exact HO2.out
      case measure =>
        obtain ⟨_, g2, cap2, e2, _⟩ := HO2.out
        rw [e2]
        have := HM.out
        simp only [lenV]; omega
    · have e : k = z := by omega
      subst e
      have hq : m % 64 = 56 := by have h1 := HM.out; have h2 := HZ3.out; rw [h1]; exact h2
      have q1 : ((m : Int) % 64 != 56) = false := by rw [bne_eq_false_iff_eq]; omega
      have q2 : ((m : Int).tmod 64 != 56) = false := by rw [Int.tmod_eq_emod_of_nonneg (by omega)]; exact q1
      have HQ : Hid _ := hq
      clear hq hlt
      have HF0 : Hid (fullL s k ((s.size : Int) * 8) 0 = upL s k) := by show _ = _; simp [fullL]
      go_wp2_with fail
      go_loopw [3, 5] (fun b i wr => ∃ j : Nat, j ≤ 8 ∧ i = .int .i64 j ∧ OwnM wr w.heap.size b (m + j) (fullL s k ((s.size : Int) * 8) j) ∧ Below w.heap.size w wr) (fun _ i _ => (8 - intOf i).toNat)
      case atStart => exact ⟨0, by omega, rfl, by rw [HF0.out]; exact HOWN.out, HBEL.out⟩
      case round =>
        clear HOWN HBEL q1 q2 hbg hg
        obtain ⟨j, hj, rfl, hown, hbel⟩ := hrel
        have HOWN : Hid (OwnM _ _ _ _ _) := hown
        have HBEL : Hid (Below _ _ _) := hbel
        obtain ⟨m2, HM2⟩ : ∃ m2, Hid (m2 = m + j) := ⟨_, rfl⟩
        rw [← HM2.out] at HOWN
        clear hown hbel
        obtain ⟨hl, g, cap, rfl, hbg, hg, h1, h2⟩ := HOWN.out
        clear hl h1 h2
        have hmb2 : m2 ≤ 140737488352256 + 200 := by have := HM2.out; omega
        by_cases hlt : j < 8
        · have hlt' : (j : Int) < 8 := by omega
          have hj56 : (0 : Int) ≤ 56 - 8 * (j : Int) := by omega
          go_wp2_with (at_builtin; refine append_mark rfl (.tmp 26) (.tmp 34) rfl w.heap.size _ m2 _ rfl (HOWN.out.alloc _) ⟨wr.heap.size, 0, none⟩ 1 _ rfl (one_new _ _ _) (by omega) (by have := HBEL.out.size; simp; omega) ?_; intro v' w2 ho2 hb2; have HO2 : Hid (OwnM _ _ _ _ _) := ho2; have HB2 : Hid (Below w.heap.size w w2) := (HBEL.out.alloc HBEL.out.size _).trans hb2; clear ho2 hb2)
          go_roundw
          case rel =>
            refine ⟨j + 1, by omega, by go_num, ?_, HB2.out⟩
            rw [← fullL_next s k _ _ j hlt rfl, show m + (j + 1) = m2 + 1 by have := HM2.out; omega, ← pow_back j hlt]
            exact HO2.out
          case measure => simp [intOf]; omega
        · have e : j = 8 := by omega
          subst e
          have hlt' : ¬ ((8 : Nat) : Int) < 8 := by omega
          go_wp2
          go_ret
          have hm : m2 = 64 * padN s.size := by
            have h1 := HM2.out; have h2 := HM.out; have h3 := HZ.out
            rw [padN_mul]; omega
          obtain ⟨hl, g', cap', e', _, hg', h1, _⟩ := HOWN.out
          obtain ⟨rfl, rfl⟩ : g = g' ∧ cap = cap' := by
            injection e' with e1 e2 e3
            injection e1 with e4
            injection e4 with e5
            exact ⟨e5, e3⟩
          rw [← hm]
          refine ⟨g, ⟨cap, rfl⟩, HBEL.out, hg', fun i hi => ?_⟩
          have hb := (show fullL s k ((s.size : Int) * 8) 8 = btL s s.size ++ padL s.size by
            have e8 : (lowB ((s.size : Int) * 8) 8).take 8 = lowB ((s.size : Int) * 8) 8 := List.take_of_length_le (by rw [lowB_length]; omega)
            have e9 : bitsF s.size = (s.size : Int) * 8 := by unfold bitsF; omega
            rw [fullL, upL, e8, padL, e9, ← HZ.out]
            simp)
          rw [Nat.zero_add, h1 i hi, hb]
          have key := pad_at s i (by rw [padB_size, ← hm]; exact hi)
          rw [key]
          exact ⟨rfl, bt_nonneg _ _, bt_le _ _⟩
end Go.Proofs.YtajfcddabkhamaaDoor.rd

namespace Go.Proofs.YtajfcddabkhamaaDoor.re
open Go.RowKit Go.PlainAid
open Go.Proofs.YtajfcddabkhamaaDoor.pl Go.Proofs.YtajfcddabkhamaaDoor.pd Go.Proofs.YtajfcddabkhamaaDoor.pf Go.Proofs.YtajfcddabkhamaaDoor.pg Go.Proofs.YtajfcddabkhamaaDoor.ra Go.Proofs.YtajfcddabkhamaaDoor.rb Go.Proofs.YtajfcddabkhamaaDoor.rc Go.Proofs.YtajfcddabkhamaaDoor.rd
set_option linter.unusedVariables false

def TT (w : World) (kk : Nat → Int) : Prop := ∀ j, j < 64 → w.cell? ⟨1, j, none⟩ = some (.int .u32 (kk j))
def FT (w : World) (v : St) : Prop := ∀ j, j < 8 → w.cell? ⟨0, j, none⟩ = some (.int .u32 (v.list.getD j 0))
theorem tt_lt {w : World} {kk : Nat → Int} (h : TT w kk) : 1 < w.heap.size := World.block_lt_of_cell? w ⟨1, 0, none⟩ (h 0 (by omega))
theorem tt_below {w w' : World} {kk : Nat → Int} {B : Nat} (x : TT w kk) (b : Below B w w') (hB : 1 < B) : TT w' kk := fun j hj => (b.cell hB).trans (x j hj)
theorem ft_below {w w' : World} {v : St} {B : Nat} (x : FT w v) (b : Below B w w') (hB : 0 < B) : FT w' v := fun j hj => (b.cell hB).trans (x j hj)
theorem bytes_below {w w' : World} {B off len : Nat} {g : Nat → Int} {b : Nat} (x : Bytes w B off len g) (h : Below b w w') (hB : B < b) : Bytes w' B off len g :=
  ⟨Nat.lt_of_lt_of_le x.1 h.size, fun j hj => ⟨(h.cell hB).trans (x.2 j hj).1, (x.2 j hj).2⟩⟩
theorem bytes_setRow {w : World} {B off len : Nat} {g : Nat → Int} (x : Bytes w B off len g) (b : Nat) (cs : Array Value) (hne : B ≠ b) : Bytes (w.setRow b cs) B off len g :=
  ⟨by have := x.1; simpa [World.setRow] using this, fun j hj => ⟨(World.cell?_of_block (w := w) (setRow_other w b B cs hne)).trans (x.2 j hj).1, (x.2 j hj).2⟩⟩
theorem cell_grow {w w' : World} {row : Option Nat} (h : w.grownBy w' row) (b i : Nat) (hb : b < w.heap.size) (hne : some b ≠ row) : w'.cell? ⟨b, i, none⟩ = w.cell? ⟨b, i, none⟩ := World.cell?_of_block (w := w) (h.block b hb hne)

structure LayR (kk : Nat → Int) (w : World) (vB g L : Nat) (G : Nat → Int) (V : St) (wr : World) : Prop where
  lv : wr.heap[vB]? = some (.cells V.cells 93 (0, 0))
  lb : Bytes wr g 0 L G
  lt : TT wr kk
  bl : Below w.heap.size w wr

set_option maxHeartbeats 1600000 in
theorem rsum (kk : Nat → Int) (v0 : St) (s : ByteArray) (w : World) (hv : v0.ok) (hsz : s.size ≤ 140737488352256) (HF : Hid (FT w v0)) (HT : Hid (TT w kk)) :
    Calls Tryd.prog 49 #[.string s] w fun e w' => e = .returned (.string (shaF kk v0 s)) ∧ Below w.heap.size w w' := by
  have h3 : 1 < w.heap.size := tt_lt HT.out
  obtain ⟨L, HL⟩ : ∃ L, Hid (L = 64 * padN s.size) := ⟨_, rfl⟩
  have hL : L ≤ 140737488352256 + 200 := by have h1 := HL.out; rw [padN_mul] at h1; unfold zerosF at h1; omega
  have HP : Hid (Calls _ _ _ _ _) := padded s w hsz
  rw [← HL.out] at HP
  obtain ⟨i5, hi, hz0, hz1, hz2⟩ := info_parts info5
  have HIN : Hid (_ ∧ _ ∧ _ ∧ _) := ⟨hi, hz0, hz1, hz2⟩
  clear hi hz0 hz1 hz2
  have H40 : Hid ((Tryd.prog.info? 93).map (·.size) = some 8) := by show _ = _; kernel_rfl
  go_enter Tryd.func49, Tryd.ntmps49
  go_wp2_with fail
  refine HP.out.mono ?_
  rintro e w1 ⟨g, cap, rfl, hb1, hby⟩
  have HB1 : Hid (Below w.heap.size w w1) := hb1
  have HBY : Hid (Bytes w1 g 0 L (bt (padB s))) := hby
  have hg1 : g < w1.heap.size := hby.1
  have hs1 : w.heap.size ≤ w1.heap.size := hb1.size
  clear hb1 hby HP
  obtain ⟨a, b, c, d, e, f, g', h'⟩ := v0
  have hft := ft_below HF.out HB1.out (by omega)
  have X0 : w1.cell? ⟨0, 0, none⟩ = some (.int .u32 a) := hft 0 (by omega)
  have X1 : w1.cell? ⟨0, 1, none⟩ = some (.int .u32 b) := hft 1 (by omega)
  have X2 : w1.cell? ⟨0, 2, none⟩ = some (.int .u32 c) := hft 2 (by omega)
  have X3 : w1.cell? ⟨0, 3, none⟩ = some (.int .u32 d) := hft 3 (by omega)
  have X4 : w1.cell? ⟨0, 4, none⟩ = some (.int .u32 e) := hft 4 (by omega)
  have X5 : w1.cell? ⟨0, 5, none⟩ = some (.int .u32 f) := hft 5 (by omega)
  have X6 : w1.cell? ⟨0, 6, none⟩ = some (.int .u32 g') := hft 6 (by omega)
  have X7 : w1.cell? ⟨0, 7, none⟩ = some (.int .u32 h') := hft 7 (by omega)
  clear hft
  go_wp2_with fail
  clear X0 X1 X2 X3 X4 X5 X6 X7
  obtain ⟨v0, hv0⟩ : ∃ v0 : St, v0 = ⟨a, b, c, d, e, f, g', h'⟩ := ⟨_, rfl⟩
  have lay0 : LayR kk w w1.heap.size g L (bt (padB s)) v0 (w1.alloc (.cells #[.int .u32 a, .int .u32 b, .int .u32 c, .int .u32 d, .int .u32 e, .int .u32 f, .int .u32 g', .int .u32 h'] 93)) := by
    subst hv0
    exact ⟨heap_alloc_new w1 _, bytes_below HBY.out ((Below.refl w1.heap.size w1).alloc (Nat.le_refl _) _) hg1, tt_below (tt_below HT.out HB1.out h3) ((Below.refl w1.heap.size w1).alloc (Nat.le_refl _) _) (by omega), HB1.out.alloc hs1 _⟩
  have LAY0 : Hid (LayR _ _ _ _ _ _ _ _) := lay0
  have HV0 : Hid v0.ok := by show v0.ok; rw [hv0]; exact hv
  have HVE : Hid _ := hv0
  generalize w1.alloc (.cells #[.int .u32 a, .int .u32 b, .int .u32 c, .int .u32 d, .int .u32 e, .int .u32 f, .int .u32 g', .int .u32 h'] 93) = w2 at *
  clear lay0 hv0 hv HBY
  go_loopw [5] (fun i wr => ∃ k P : Nat, Hid (P = 64 * k) ∧ P ≤ L ∧ i = .int .i64 P ∧ Hid (LayR kk w w1.heap.size g L (bt (padB s)) (hs kk (bt (padB s)) v0 k) wr)) (fun i _ => (L - intOf i).toNat)
  case atStart => exact ⟨0, 0, rfl, by omega, rfl, LAY0⟩
  case round =>
    clear LAY0
    obtain ⟨k, P, HPk, hPL, rfl, LAY⟩ := hrel
    have hLm : L % 64 = 0 := by have := HL.out; omega
    have hPm : P % 64 = 0 := by have := HPk.out; omega
    have HLM : Hid _ := hLm
    have HPM : Hid _ := hPm
    clear hLm hPm
    have okk := hs_ok kk (bt (padB s)) v0 HV0.out k
    have HOK : Hid (St.ok _) := okk
    clear okk
    have HE1 : Hid (hs kk (bt (padB s)) v0 (k + 1) = blockF kk (bt (padB s)) P (hs kk (bt (padB s)) v0 k)) := by show _ = _; rw [HPk.out]; rfl
    have HFIN : Hid (k = padN s.size → textF (hs kk (bt (padB s)) v0 k) = shaF kk v0 s) := fun e => by rw [e]; rfl
    by_cases hlt : P < L
    · have hlt' : (P : Int) < L := by omega
      have h63 : P + 63 < L := by have := HLM.out; have := HPM.out; omega
      revert HE1 HOK LAY
      generalize hs kk (bt (padB s)) v0 k = V
      intro LAY HOK HE1
      have hsz8 : V.cells.size = 8 := rfl
      have HZ8 : Hid ((Tryd.prog.info? 93).map (·.size) = some V.cells.size) := by show _ = _; rw [hsz8]; exact H40.out
      clear hsz8
      go_wp2_with (refine wpList_load_row rfl 93 (.tmp 4) rfl w1.heap.size rfl 93 V.cells (0, 0) _ LAY.out.lv Tryd.underlying93 rfl HZ8.out ?_)
      refine (block V g 0 L cap P (bt (padB s)) kk _ h63 (by omega) HOK.out LAY.out.lb LAY.out.lt).mono ?_
      rintro e w3 ⟨rfl, hb3⟩
      have hvlt : w1.heap.size < wr.heap.size := (Array.getElem?_eq_some_iff.1 LAY.out.lv).1
      have HV3 : Hid (w3.heap[w1.heap.size]? = some (.cells V.cells 93 (0, 0))) := (hb3.block _ hvlt).trans LAY.out.lv
      have HB3 : Hid (Below wr.heap.size wr w3) := hb3
      clear hb3
      go_wp2_with (refine wpList_store_row rfl 93 (.tmp 4) (.tmp 20) rfl w1.heap.size (blockF kk (bt (padB s)) P V).cells rfl rfl 93 V.cells HV3.out (show _ = some (blockF kk (bt (padB s)) P V).cells.size from H40.out) rfl (by simp [St.cells, Value.oneCell']) ?_)
      go_roundw
      case rel =>
        refine ⟨k + 1, P + 64, (show _ = _ by have := HPk.out; omega), by have := HLM.out; have := HPM.out; omega, by go_num, ?_⟩
        rw [HE1.out]
        exact ⟨setRow_heap _ _ _ _ _ _ HV3.out, bytes_setRow (bytes_below LAY.out.lb HB3.out (by omega)) _ _ (by omega), tt_below (tt_below LAY.out.lt HB3.out (by omega)) (below_setRow (B := w1.heap.size) (Below.refl _ _) (Nat.le_refl _) _) (by omega), below_setRow (LAY.out.bl.trans (HB3.out.mono (by omega))) hs1 _⟩
      case measure => simp [intOf]; omega
    · have hlt' : ¬ (P : Int) < L := by omega
      have ek : k = padN s.size := by have h1 := HPk.out; have h2 := HL.out; omega
      have HT2 : Hid _ := HFIN.out ek
      clear HE1 HFIN
      revert HOK LAY HT2
      generalize hs kk (bt (padB s)) v0 k = V
      intro LAY HOK HT2
      have hvlt : w1.heap.size < wr.heap.size := (Array.getElem?_eq_some_iff.1 LAY.out.lv).1
      go_wp2_with fail
      go_loopw [6, 7] (fun out i wq => ∃ j : Nat, j ≤ 8 ∧ i = .int .i64 j ∧ wq.ownsRow (w1.heap.size + 1) 5 1 out (4 * j) ((bytesL (V.list.take j)).map (Value.int .u8)) ∧ wq.heap[w1.heap.size]? = some (.cells V.cells 93 (0, 0)) ∧ Below w.heap.size w wq) (fun _ i _ => (8 - intOf i).toNat)
      case atStart => exact ⟨0, by omega, rfl, World.ownsRow_nil _ _ _ _, LAY.out.lv, LAY.out.bl⟩
      case round =>
        clear LAY hvlt
        obtain ⟨j, hj, rfl, hown, hlv, hbel⟩ := hrel
        have HOWN : Hid (World.ownsRow _ _ _ _ _ _ _) := hown
        have HLV : Hid _ := hlv
        have HBEL : Hid (Below _ _ _) := hbel
        clear hown hlv hbel
        have hvlt : w1.heap.size < wr.heap.size := (Array.getElem?_eq_some_iff.1 HLV.out).1
        by_cases hlt8 : j < 8
        · have hlt8' : (j : Int) < 8 := by omega
          have hj0 : (0 : Int) ≤ (j : Int) := by omega
          have C1 : wr.cell? ⟨w1.heap.size, j, none⟩ = some (.int .u32 (V.list.getD j 0)) := by
            rw [cell_of_row _ _ _ _ _ _ HLV.out, St.get V j hlt8]
          obtain ⟨r1, r2⟩ := St.rng V HOK.out j hlt8
          have HX : Hid _ := bytes_next V j hlt8
          revert HX C1 r1 r2
          generalize V.list.getD j 0 = x
          intro C1 r1 r2 HX
          have HW : Hid (wordB x = [IntKind.u8.wrap (x / 16777216), IntKind.u8.wrap (x / 65536), IntKind.u8.wrap (x / 256), IntKind.u8.wrap x]) := by
            show _ = _
            simp only [wordB, IntKind.wrap_u8]
          go_wp2_with fail
          go_region_held3 (fun w' => w'.cell? ⟨w1.heap.size, j, none⟩ = some (.int .u32 x)) (first | go_keep | (rw [cell_grow hgrow3 _ _ (by simp; omega) (fun e => by have := (HOWN.out.lt _ e.symm).1; omega)]; go_keep)) ((refine step_append_lies _ (by rfl) _ _ 65 (by rfl) (w1.heap.size + 1) 5 i5 (.int .u8 0) 1 1 Tryd.underlying65 HIN.out.1 HIN.out.2.1 HIN.out.2.2.1 HIN.out.2.2.2 rfl (by decide) _ _ _ (by rfl) (World.ownsRow.drew (HOWN.out.alloc _)) ⟨wr.heap.size, 0, none⟩ 4 4 [.int .u8 (IntKind.u8.wrap (x / 16777216)), .int .u8 (IntKind.u8.wrap (x / 65536)), .int .u8 (IntKind.u8.wrap (x / 256)), .int .u8 (IntKind.u8.wrap x)] (by rfl) rfl (four_new _ _ _ _ _ _) (fun u hu => by simp at hu; rcases hu with rfl | rfl | rfl | rfl <;> rfl) (by omega) (by unfold maxLen; omega) (by omega) (by simp; omega) _ rfl ?_; intro g3 cap3 w3 hown' hgrow3 hlies hglt))
          all_goals (
            have HO3 : Hid (World.ownsRow _ _ _ _ _ _ _) := hown'
            have HB3 : Hid (Below w.heap.size w w3) := Below.grown ((HBEL.out.alloc HBEL.out.size _).drew) hgrow3 (by have := HBEL.out.size; simp; omega) (fun j hj => by have := (HOWN.out.lt _ hj).1; omega)
            have HV3 : Hid (w3.heap[w1.heap.size]? = some (.cells V.cells 93 (0, 0))) := ((hgrow3.block _ (by simp; omega) (fun e => by have := (HOWN.out.lt _ e.symm).1; omega)).trans (Below.heap_alloc _ _ _ hvlt)).trans HLV.out
            clear hown' hgrow3 hlies hglt C1
            go_wp2
            go_roundw
            case rel =>
              refine ⟨j + 1, by omega, by go_num, ?_, HV3.out, HB3.out⟩
              rw [HX.out, HW.out, List.map_append]
              exact HO3.out
            case measure => simp [intOf]; omega)
        · have hlt8' : ¬ (j : Int) < 8 := by omega
          have e8 : j = 8 := by omega
          subst e8
          have hcv := own_conv wr (w1.heap.size + 1) _ (bytesL (V.list.take 8)) 32 (by rw [bytesL_length]; rfl) (by omega) HOWN.out
          have ht : str (bytesL (V.list.take 8)) = textF V := rfl
          have hve := HVE.out
          subst hve
          rw [ht, HT2.out] at hcv
          clear ht HT2
          go_wp2
          go_ret
          exact ⟨rfl, HBEL.out⟩
end Go.Proofs.YtajfcddabkhamaaDoor.re

namespace Go.Proofs.YtajfcddabkhamaaDoor.ft
open Go.ChangeShapes Go.WideShapes Go.ChangeAt Go.WideMaps Go.WideElems Go.RowKit
open Go.Proofs.YtajfcddabkhamaaDoor.pl

def kL : List Int := [1116352408, 1899447441, 3049323471, 3921009573, 961987163, 1508970993, 2453635748, 2870763221, 3624381080, 310598401, 607225278, 1426881987, 1925078388, 2162078206, 2614888103, 3248222580, 3835390401, 4022224774, 264347078, 604807628, 770255983, 1249150122, 1555081692, 1996064986, 2554220882, 2821834349, 2952996808, 3210313671, 3336571891, 3584528711, 113926993, 338241895, 666307205, 773529912, 1294757372, 1396182291, 1695183700, 1986661051, 2177026350, 2456956037, 2730485921, 2820302411, 3259730800, 3345764771, 3516065817, 3600352804, 4094571909, 275423344, 430227734, 506948616, 659060556, 883997877, 958139571, 1322822218, 1537002063, 1747873779, 1955562222, 2024104815, 2227730452, 2361852424, 2428436474, 2756734187, 3204031479, 3329325298]
def kF (j : Nat) : Int := kL.getD j 0
def v0 : St := ⟨1779033703, 3144134277, 1013904242, 2773480762, 1359893119, 2600822924, 528734635, 1541459225⟩


theorem own : ownKnob Tryd.prog.godebug = none := by kernel_rfl
theorem c64 : Tryd.prog.cellsOf 97 = 64 := by kernel_rfl
theorem c1 : Tryd.prog.cellsOf 92 = 1 := by kernel_rfl

theorem v0_ok : v0.ok := by unfold St.ok v0; decide

def St8 (W : World) (b : Nat) : Prop := ∀ j, j < 8 → W.cell? ⟨b, j, none⟩ = some (.int .u32 (v0.list.getD j 0))
def K64 (W : World) (b : Nat) : Prop := ∀ j, j < 64 → W.cell? ⟨b, j, none⟩ = some (.int .u32 (kF j))

theorem at8 {W : World} {b : Nat} {cs : Array Value} (e : cs.toList = v0.list.map (Value.int .u32)) (hc : ∀ j, W.cell? ⟨b, j, none⟩ = cs[j]?) : St8 W b := fun j hj => by
  have hl : v0.list.length = 8 := rfl
  rw [hc j, ← Array.getElem?_toList, e]
  simp [List.getD, List.getElem?_eq_getElem (show j < v0.list.length by omega)]
theorem at64 {W : World} {b : Nat} {cs : Array Value} (e : cs.toList = kL.map (Value.int .u32)) (hc : ∀ j, W.cell? ⟨b, j, none⟩ = cs[j]?) : K64 W b := fun j hj => by
  have hl : kL.length = 64 := rfl
  rw [hc j, ← Array.getElem?_toList, e]
  simp [kF, List.getD, List.getElem?_eq_getElem (show j < kL.length by omega)]

end Go.Proofs.YtajfcddabkhamaaDoor.ft

namespace Go.Proofs.YtajfcddabkhamaaDoor.ph
end Go.Proofs.YtajfcddabkhamaaDoor.ph
namespace Go.Proofs.YtajfcddabkhamaaDoor.pi
def wid (w : Int) : Nat := if w < 1 ∨ 32 < w then 32 else w.toNat
theorem wid_le (w : Int) : wid w ≤ 32 := by unfold wid; split <;> omega
theorem wid_pos (w : Int) : 1 ≤ wid w := by unfold wid; split <;> omega
end Go.Proofs.YtajfcddabkhamaaDoor.pi
namespace Go.Proofs.YtajfcddabkhamaaDoor.pj
open Go.RowKit Go.PlainAid
open Go.Proofs.YtajfcddabkhamaaDoor.pl Go.Proofs.YtajfcddabkhamaaDoor.pa Go.Proofs.YtajfcddabkhamaaDoor.pb Go.Proofs.YtajfcddabkhamaaDoor.pc Go.Proofs.YtajfcddabkhamaaDoor.pd Go.Proofs.YtajfcddabkhamaaDoor.pe Go.Proofs.YtajfcddabkhamaaDoor.pf Go.Proofs.YtajfcddabkhamaaDoor.pg Go.Proofs.YtajfcddabkhamaaDoor.ft
set_option linter.unusedVariables false

-- a seat without package sha: its tables are asked for by nobody
def sha (s : ByteArray) : ByteArray := shaF kF v0 s
theorem sha_size (s : ByteArray) : (sha s).size = 32 := shaF_size _ _ _
structure Tab (w : World) : Prop where
  big : 6 ≤ w.heap.size
theorem Tab.below {w w' : World} {B : Nat} (h : Tab w) (b : Below B w w') (hB : 6 ≤ B) : Tab w' := ⟨Nat.le_trans h.big b.size⟩
theorem Tab.down {w w' : World} (h : Tab w) (b : Below w.heap.size w w') : Tab w' := ⟨Nat.le_trans h.big b.size⟩
theorem ok0 : Hid v0.ok := v0_ok
end Go.Proofs.YtajfcddabkhamaaDoor.pj

namespace Go.Proofs.YtajfcddabkhamaaDoor.rf
open Go.RowKit Go.PlainAid
open Go.Proofs.YtajfcddabkhamaaDoor.pl Go.Proofs.YtajfcddabkhamaaDoor.pc Go.Proofs.YtajfcddabkhamaaDoor.ph Go.Proofs.YtajfcddabkhamaaDoor.pi Go.Proofs.YtajfcddabkhamaaDoor.ft Go.Proofs.YtajfcddabkhamaaDoor.pj Go.Proofs.YtajfcddabkhamaaDoor.re
set_option linter.unusedVariables false

structure Tab4 (w : World) : Prop where
  t : Tab w
  ft : FT w v0
  tt : TT w kF
theorem Tab4.big {w : World} (h : Tab4 w) : 6 ≤ w.heap.size := by have h1 := tt_lt h.tt; have h2 := h.t.big; omega
theorem Tab4.below {w w' : World} {B : Nat} (h : Tab4 w) (b : Below B w w') (hB : 6 ≤ B) : Tab4 w' := ⟨h.t.below b (by omega), ft_below h.ft b (by omega), tt_below h.tt b (by omega)⟩
theorem Tab4.down {w w' : World} (h : Tab4 w) (b : Below w.heap.size w w') : Tab4 w' := h.below b h.big

theorem RSum (s : ByteArray) (w : World) (hs : s.size ≤ 140737488352256) (T : Tab4 w) :
    Calls Tryd.prog 49 #[.string s] w fun e w' => e = .returned (.string (sha s)) ∧ Below w.heap.size w w' := rsum kF v0 s w v0_ok hs T.ft T.tt

end Go.Proofs.YtajfcddabkhamaaDoor.rf

namespace Go.Proofs.YtajfcddabkhamaaDoor.xa
open Go.Lib Go.Proofs.YtajfcddabkhamaaDoor.ca
set_option linter.unusedVariables false

theorem bitLen_zero : Lib.bitLen 0 = 0 := by decide

theorem bitLen_lt : ∀ (f x : Nat), x < 2 ^ f → f ≤ 64 → x < 2 ^ Lib.bitLen x ∧ (x ≠ 0 → 2 ^ (Lib.bitLen x - 1) ≤ x ∧ 1 ≤ Lib.bitLen x)
  | 0, x, h, _ => by
    have : x = 0 := by simpa using h
    subst this
    rw [bitLen_zero]; exact ⟨by decide, fun h => absurd rfl h⟩
  | f + 1, x, h, hf => by
    by_cases hx : x = 0
    · subst hx; rw [bitLen_zero]; exact ⟨by decide, fun h => absurd rfl h⟩
    · have hp := Nat.pow_le_pow_right (n := 2) (by omega) hf
      have e := Lib.bitLen_half x hx (Nat.lt_of_lt_of_le h hp)
      have ih := bitLen_lt f (x / 2) (by rw [Nat.pow_succ] at h; omega) (by omega)
      rw [e]
      refine ⟨?_, fun _ => ⟨?_, by omega⟩⟩
      · rw [Nat.add_comm, Nat.pow_succ]; omega
      · by_cases h2 : x / 2 = 0
        · rw [h2, bitLen_zero]; simp; omega
        · obtain ⟨h3, h4⟩ := ih.2 h2
          obtain ⟨l, hl⟩ : ∃ l, Lib.bitLen (x / 2) = l + 1 := ⟨Lib.bitLen (x / 2) - 1, by omega⟩
          rw [hl] at h3 ⊢
          rw [show 1 + (l + 1) - 1 = l + 1 by omega, Nat.pow_succ]
          rw [show l + 1 - 1 = l by omega] at h3
          omega

theorem len_spec (x : Nat) (h : x < 18446744073709551616) : x < 2 ^ Lib.bitLen x ∧ (x ≠ 0 → 2 ^ (Lib.bitLen x - 1) ≤ x ∧ 1 ≤ Lib.bitLen x) :=
  bitLen_lt 64 x h (by omega)

theorem len_le63 (x : Nat) (h : x ≤ 9223372036854775807) : Lib.bitLen x ≤ 63 := bitLenAux_le 64 x 63 (by omega)

theorem bits_out (x : Int) (h : x ≤ 0) : Lib.bitLen x.toNat = 0 := by
  rw [show x.toNat = 0 by omega]; exact bitLen_zero

theorem ctz_spec (x : Nat) (h0 : 0 < x) (h : x < 9223372036854775808) : ∃ m, x = 2 ^ ctz 64 x * (2 * m + 1) ∧ ctz 64 x ≤ 62 := by
  have hx : x ≠ 0 := by omega
  obtain ⟨m, hm, hk⟩ := ctzFrom_spec 64 x h0 (by omega)
  have e : ctz 64 x = ctzFrom 64 x := by unfold ctz; rw [if_neg hx]
  rw [e]
  refine ⟨m, hm, ?_⟩
  apply Nat.le_of_not_lt
  intro hlt
  have hp := Nat.pow_le_pow_right (n := 2) (by omega) (show 63 ≤ ctzFrom 64 x by omega)
  have e63 : (2 : Nat) ^ 63 = 9223372036854775808 := by decide
  have : 2 ^ ctzFrom 64 x ≤ x := by
    conv => rhs; rw [hm]
    exact Nat.le_mul_of_pos_right _ (by omega)
  omega

-- the noughts behind p, as the program counts them
def zer (p : Nat) : Nat := if p = 0 then 63 else ctz 64 p
theorem level (p d : Nat) (hp : p < 9223372036854775808) (h0 : 0 < d) (hd : d ≤ 4611686018427387904) : Lv p d (min (zer p) (Lib.bitLen d - 1)) ∧ 1 ≤ Lib.bitLen d ∧ Lib.bitLen d ≤ 63 ∧ zer p ≤ 63 := by
  obtain ⟨l1, l2⟩ := len_spec d (by omega)
  obtain ⟨l3, l4⟩ := l2 (by omega)
  have l5 := len_le63 d (by omega)
  obtain ⟨b, hb⟩ : ∃ b, Lib.bitLen d = b + 1 := ⟨Lib.bitLen d - 1, by omega⟩
  rw [hb] at l1 l3 l5 ⊢
  rw [Nat.add_sub_cancel] at l3 ⊢
  have key : 2 ^ min (zer p) b ∣ p ∧ (zer p < b → ¬ 2 ^ (zer p + 1) ∣ p) ∧ zer p ≤ 63 := by
    unfold zer
    split
    · rename_i h
      subst h
      exact ⟨Nat.dvd_zero _, fun h => by omega, by omega⟩
    · rename_i h
      obtain ⟨m, hm, hk⟩ := ctz_spec p (by omega) hp
      refine ⟨?_, fun _ => ?_, by omega⟩
      · refine Nat.dvd_trans (p2dvd (Nat.min_le_left _ _)) ?_
        exact ⟨_, hm⟩
      · rintro ⟨c, hc⟩
        rw [p2s] at hc
        have e : 2 ^ ctz 64 p * (2 * m + 1) = 2 ^ ctz 64 p * (2 * c) := by
          rw [← hm]
          conv => lhs; rw [hc]
          rw [Nat.mul_comm 2 (2 ^ ctz 64 p), Nat.mul_assoc]
        have := Nat.eq_of_mul_eq_mul_left (p2 _) e
        omega
  have hmin : min (zer p) b ≤ b := Nat.min_le_right _ _
  refine ⟨⟨by omega, key.1, Nat.le_trans (p2le hmin) l3, ?_⟩, by omega, l5, key.2.2⟩
  rcases Nat.lt_or_ge (zer p) b with e | e
  · rw [Nat.min_eq_left (by omega)]
    exact .inr (.inl (key.2.1 e))
  · rw [Nat.min_eq_right e]
    exact .inr (.inr l1)
end Go.Proofs.YtajfcddabkhamaaDoor.xa

namespace Go.Proofs.YtajfcddabkhamaaDoor.xb
open Go.RowKit Go.PlainAid
set_option linter.unusedVariables false

theorem ret_i64 {a b : Int} (h : a = b) : Ending.returned (.int .i64 a) = .returned (.int .i64 b) := by rw [h]

theorem bt_len8 (k : Nat) (h : k < 256) : bt Lib.len8tab k = Lib.bitLen k := by
  have key : ∀ n : Fin 256, bt Lib.len8tab n.val = Lib.bitLen n.val := by decide +kernel
  exact key ⟨k, h⟩

theorem sh (x : Int) (k : Nat) (y n : Int) (h0 : 0 ≤ x) (h1 : x ≤ 18446744073709551615) (hy : y = x / 2 ^ k) (hk : 2 ^ k ≤ x.toNat) (hn : n = k) (hk' : k ≤ 64) (hb : y ≤ 255) (hy0 : 0 ≤ y) :
    wrap64 (n + wrap64 (bt Lib.len8tab y.toNat)) = Lib.bitLen x.toNat := by
  have e : y.toNat = x.toNat / 2 ^ k := by
    subst hy
    obtain ⟨m, rfl⟩ := Int.eq_ofNat_of_zero_le h0
    simp only [Int.toNat_natCast]
    have : ((m : Int) / 2 ^ k) = ((m / 2 ^ k : Nat) : Int) := by simp
    rw [this, Int.toNat_natCast]
  have l := Lib.bitLen_le8' y hy0 hb
  rw [bt_len8 y.toNat (by omega), Lib.bitLen_shift k x.toNat hk (by omega), hn, ← e, IntWalk.wrap64_in (Lib.bitLen y.toNat) ⟨by omega, by omega⟩, IntWalk.wrap64_in _ ⟨by omega, by omega⟩]
  omega

theorem sh0 (x : Int) (h0 : 0 ≤ x) (hb : x ≤ 255) : wrap64 (wrap64 (bt Lib.len8tab x.toNat)) = Lib.bitLen x.toNat := by
  have l := Lib.bitLen_le8' x h0 hb
  rw [bt_len8 x.toNat (by omega), IntWalk.wrap64_in (Lib.bitLen x.toNat) ⟨by omega, by omega⟩, IntWalk.wrap64_in _ ⟨by omega, by omega⟩]

set_option maxHeartbeats 1600000 in
set_option maxRecDepth 100000 in
theorem len_any (x : Int) (w : World) (h0 : 0 ≤ x) (h1 : x ≤ 18446744073709551615) :
    Calls Tryd.prog 46 #[.int .u64 x] w fun e w' => e = .returned (.int .i64 (Lib.bitLen x.toNat)) ∧ w' = w := by
  have hsz : Lib.len8tab.size = 256 ∧ True := ⟨Lib.len8tab_size, trivial⟩
  have hbt := get_bt Lib.len8tab
  go_enter Tryd.func46, Tryd.ntmps46
  go_wp2
  all_goals
    go_ret
    refine ⟨ret_i64 ?_, rfl⟩
    first
      | exact sh x 56 _ _ h0 h1 (by omega) (by omega) (by omega) (by omega) (by omega) (by omega)
      | exact sh x 48 _ _ h0 h1 (by omega) (by omega) (by omega) (by omega) (by omega) (by omega)
      | exact sh x 40 _ _ h0 h1 (by omega) (by omega) (by omega) (by omega) (by omega) (by omega)
      | exact sh x 32 _ _ h0 h1 (by omega) (by omega) (by omega) (by omega) (by omega) (by omega)
      | exact sh x 24 _ _ h0 h1 (by omega) (by omega) (by omega) (by omega) (by omega) (by omega)
      | exact sh x 16 _ _ h0 h1 (by omega) (by omega) (by omega) (by omega) (by omega) (by omega)
      | exact sh x 8 _ _ h0 h1 (by omega) (by omega) (by omega) (by omega) (by omega) (by omega)
      | exact sh0 x h0 (by omega)
end Go.Proofs.YtajfcddabkhamaaDoor.xb
