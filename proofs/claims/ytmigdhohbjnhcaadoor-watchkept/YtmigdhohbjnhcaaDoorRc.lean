import Derived.Test.YtmigdhohbjnhcaaDoorRb
import Derived.Test.YtmigdhohbjnhcaaDoorPg
import Derived.ArgAppend
import Derived.Laws.IdiomStrings
namespace Go.Proofs.YtmigdhohbjnhcaaDoor.rc
open Go.RowKit Go.PlainAid
open Go.Proofs.YtmigdhohbjnhcaaDoor.pl Go.Proofs.YtmigdhohbjnhcaaDoor.pd Go.Proofs.YtmigdhohbjnhcaaDoor.pf Go.Proofs.YtmigdhohbjnhcaaDoor.ra Go.Proofs.YtmigdhohbjnhcaaDoor.rb
set_option linter.unusedVariables false

-- a slice of bytes of our own, by its cells
structure OwnM (w : World) (base : Nat) (v : Value) (n : Nat) (ns : List Int) : Prop where
  len : ns.length = n
  ex : ∃ g cap, v = .slice (some ⟨g, 0, none⟩) n cap ∧ base ≤ g ∧ g < w.heap.size ∧ (∀ j, j < n → w.cell? ⟨g, j, none⟩ = some (.int .u8 (ns.getD j 0))) ∧ (∀ j, n ≤ j → j < cap → (w.cell? ⟨g, j, none⟩).isSome = true ∧ w.frozen? ⟨g, j, none⟩ = false)

theorem OwnM.alloc {w : World} {base : Nat} {v : Value} {n : Nat} {ns : List Int} (h : OwnM w base v n ns) (o : Obj) : OwnM (w.alloc o) base v n ns := by
  obtain ⟨hl, g, cap, rfl, hb, hg, h1, h2⟩ := h
  refine ⟨hl, g, cap, rfl, hb, by simp; omega, fun j hj => ?_, fun j ha hc => ?_⟩
  · rw [World.cell?_alloc_lt _ _ _ hg]; exact h1 j hj
  · rw [World.cell?_alloc_lt _ _ _ hg, World.frozen?_alloc_past _ _ _ hg]; exact h2 j ha hc

theorem append_mark {ops : Array Oper} {rest : List Oper} {o : Oper} {a : Act} {w : World} {Q : Exit → Act → World → Prop} (hgd : o.guard = none) (s x : Operand)
    (ho : o.op = .call { callee := .builtin .append, args := #[s, x], argTypes := #[48, 48] }) (base : Nat) (v : Value) (n : Nat) (ns : List Int) (hs : a.eval s = v) (hown : OwnM w base v n ns)
    (ad : Addr) (c : Nat) (u : Int) (hx : a.eval x = .slice (some ad) 1 c) (hu : w.cell? ad = some (.int .u8 u)) (hn : n + 1 ≤ 140737488355328) (hbase : base ≤ w.heap.size)
    (h : ∀ v' w', OwnM w' base v' (n + 1) (ns ++ [u]) → Below base w w' → wpList Tryd.prog ops Q rest (a.put o.dst v') w') : wpList Tryd.prog ops Q (o :: rest) a w := by
  obtain ⟨hl, g, cap, rfl, hb, hg, h1, h2⟩ := hown
  obtain ⟨i5, hi, hz0, hz1, hz2⟩ := info_parts info5
  refine wpList_append_arg w hgd s x 48 ho 5 i5 (.int .u8 0) 1 1 Tryd.underlying48 hi hz0 hz1 hz2 rfl (by decide) g 0 n cap (ns.map (Value.int .u8)) hs (by simp [hl]) ?_ ad 1 c [.int .u8 u] hx rfl ?_ ?_ ?_ (by unfold maxLen; omega) (by omega) ?_ ?_
  · intro j z hj
    have hjl : j < ns.length := by simpa using (List.getElem?_eq_some_iff.1 hj).1
    rw [Nat.zero_add, h1 j (by omega), ← hj]
    simp [List.getD, hjl]
  · intro j z hj
    match j, hj with
    | 0, hj =>
      have e : ad.add 0 = ad := by simp [Addr.add]
      rw [e, hu]; exact hj
  · intro z hz
    simp at hz
    subst hz; rfl
  · intro hr j hj
    have : j = 0 := by simpa using hj
    subst this
    have := h2 n (Nat.le_refl _) (by omega)
    simpa using this
  · intro hr
    have e : w.setCells g (0 + n * 1) [.int .u8 u] = w.setCell ⟨g, n, none⟩ (.int .u8 u) := by simp [World.setCells]
    rw [e]
    refine h _ _ ⟨by simp [hl], g, cap, rfl, hb, by simpa [World.setCell] using hg, fun j hj => ?_, fun j ha hc => ?_⟩ ((Below.refl _ _).setCell hb _)
    · rcases Nat.lt_or_ge j n with hj1 | hj1
      · rw [World.cell?_setCell_other _ _ _ _ (by intro hh; injection hh with _ hh2 _; omega), h1 j hj1, List.getD, List.getD, List.getElem?_append_left (by omega)]
      · have hj2 : j = n := by omega
        subst hj2
        obtain ⟨y, hy⟩ := Option.isSome_iff_exists.1 (h2 j (Nat.le_refl _) (by omega)).1
        rw [World.cell?_setCell_same _ _ _ hy, List.getD, List.getElem?_append_right (by omega), hl]
        simp
    · have := h2 j (by omega) hc
      refine ⟨?_, ?_⟩
      · rw [World.cell?_setCell_other _ _ _ _ (by intro hh; injection hh with _ hh2 _; omega)]; exact this.1
      · rw [World.frozen?_setCell]; exact this.2
  · intro hc v' w' hown' hgrow
    obtain ⟨hl2, hh | ⟨g2, cap2, cur, rfl, hb2, hh2, k1, k2, k3, k4⟩⟩ := hown'
    · omega
    · refine h _ _ ⟨by simp [hl], g2, cap2, rfl, by omega, (Array.getElem?_eq_some_iff.1 hh2).1, fun j hj => ?_, fun j ha hcj => ?_⟩ ((Below.refl _ _).grown hgrow hbase (fun k hk => by cases hk))
      · rw [cell_of_row _ _ _ _ _ _ hh2, ← Array.getElem?_toList]
        have e1 : cur.toList[j]? = (cur.toList.take ((n + 1) * 1))[j]? := by rw [List.getElem?_take, if_pos (by omega)]
        rw [e1, k4]
        have e2 : ns.map (Value.int .u8) ++ [Value.int .u8 u] = (ns ++ [u]).map (Value.int .u8) := by simp
        rw [e2, List.getElem?_map]
        have hjl : j < (ns ++ [u]).length := by simp; omega
        simp [List.getD, List.getElem?_eq_getElem hjl]
      · refine ⟨?_, frozen_of_row _ _ _ _ _ hh2⟩
        rw [cell_of_row _ _ _ _ _ _ hh2, Array.getElem?_eq_getElem (by omega)]
        rfl

-- []byte(s)
theorem of_string (w : World) (s : ByteArray) (hs : s.size ≤ 140737488352256) : ∃ v w', (convert 9 48 (.string s)).run Tryd.prog w = .ok v w' ∧ OwnM w' w.heap.size v s.size (btL s s.size) ∧ Below w.heap.size w w' := by
  refine ⟨_, _, run_bytes_of_string w 9 48 5 s Tryd.underlying9 Tryd.underlying48 Tryd.underlying5, ⟨btL_length _ _, _, _, rfl, Nat.le_refl _, by simp, fun j hj => ?_, fun j ha hc => ?_⟩, ((Below.refl _ _).drew).alloc (Nat.le_refl _) _⟩
  · have hh : (w.drew.alloc (.cells (bytesRow s (grownCap w s.size 0 5)) 5 ((bytesRow s (grownCap w s.size 0 5)).size, (bytesRow s (grownCap w s.size 0 5)).size + 1))).heap[w.heap.size]? = some (.cells (bytesRow s (grownCap w s.size 0 5)) 5 ((bytesRow s (grownCap w s.size 0 5)).size, (bytesRow s (grownCap w s.size 0 5)).size + 1)) := heap_alloc_new w.drew _
    rw [cell_of_row _ _ _ _ _ _ hh, bytesRow, Array.getElem?_append_left (by simpa using hj), btL_get _ _ _ hj]
    have hj' : j < s.data.size := hj
    rw [Array.getElem?_map, Array.getElem?_eq_getElem hj']
    simp only [Option.map_some]
    rw [← get_bt s j hj]
    rfl
  · have hh : (w.drew.alloc (.cells (bytesRow s (grownCap w s.size 0 5)) 5 ((bytesRow s (grownCap w s.size 0 5)).size, (bytesRow s (grownCap w s.size 0 5)).size + 1))).heap[w.heap.size]? = some (.cells (bytesRow s (grownCap w s.size 0 5)) 5 ((bytesRow s (grownCap w s.size 0 5)).size, (bytesRow s (grownCap w s.size 0 5)).size + 1)) := heap_alloc_new w.drew _
    have hsz : (bytesRow s (grownCap w s.size 0 5)).size = grownCap w s.size 0 5 := by
      have := grownCap_ge w s.size 0 5
      have e : s.data.size = s.size := rfl
      simp [bytesRow, e]; omega
    refine ⟨?_, ?_⟩
    · rw [cell_of_row _ _ _ _ _ _ hh, Array.getElem?_eq_getElem (by omega)]; rfl
    · unfold World.frozen?
      rw [hh]
      simp only [hsz]
      simp; omega
end Go.Proofs.YtmigdhohbjnhcaaDoor.rc
