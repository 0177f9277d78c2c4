import Derived.Test.YtkanjkofdfmhhabDoorGs
import Derived.ArgAppend
import Derived.Maps.AppendAt
import Derived.Handy
namespace Go.Proofs.YtkanjkofdfmhhabDoor.jb
open Go.RowKit Go.PlainAid
open Go.Proofs.YtkanjkofdfmhhabDoor.ca Go.Proofs.YtkanjkofdfmhhabDoor.cb Go.Proofs.YtkanjkofdfmhhabDoor.cp Go.Proofs.YtkanjkofdfmhhabDoor.ka Go.Proofs.YtkanjkofdfmhhabDoor.ga Go.Proofs.YtkanjkofdfmhhabDoor.gb Go.Proofs.YtkanjkofdfmhhabDoor.gs
set_option linter.unusedVariables false

-- a row of texts of one's own
abbrev Own (w : World) (B : Nat) (v : Value) (ts : List ByteArray) : Prop := w.ownsRow B 9 1 v ts.length (ts.map Value.string)
theorem take_set {α : Type} (l : List α) (n : Nat) (u : α) (h : n < l.length) : (l.set n u).take (n + 1) = l.take n ++ [u] := by
  apply List.ext_getElem?
  intro j
  rw [List.getElem?_take]
  by_cases h1 : j < n
  · rw [if_pos (by omega), List.getElem?_set_ne (by omega), List.getElem?_append_left (by rw [List.length_take]; omega), List.getElem?_take, if_pos h1]
  · by_cases h2 : j = n
    · subst h2
      rw [if_pos (by omega), List.getElem?_set_self h, List.getElem?_append_right (by rw [List.length_take]; omega), List.length_take, Nat.min_eq_left (by omega), Nat.sub_self]
      rfl
    · rw [if_neg (by omega), List.getElem?_eq_none (by rw [List.length_append, List.length_take]; simp; omega)]
theorem own_push {w : World} {B e g n cap : Nat} {xs : List Value} (h : w.ownsRow B e 1 (.slice (some ⟨g, 0, none⟩) n cap) n xs) (hn : n < cap) (u : Value) : (w.setCell ⟨g, n, none⟩ u).ownsRow B e 1 (.slice (some ⟨g, 0, none⟩) (n + 1) cap) (n + 1) (xs ++ [u]) := by
  rcases h.2 with ⟨h', _⟩ | ⟨g', cap', cur, h', hb, hg, hnc, hcm, hcs, htake⟩
  · simp at h'
  · simp only [Value.slice.injEq, Option.some.injEq, Addr.mk.injEq, and_true, true_and] at h'
    obtain ⟨rfl, rfl⟩ := h'
    rw [Nat.mul_one] at hcs htake
    refine ⟨by rw [List.length_append, h.1]; simp, .inr ⟨g, cap, cur.setIfInBounds n u, rfl, hb, heap_setCell_same w g n cur e u hg, by omega, hcm, by simpa using hcs, ?_⟩⟩
    rw [Nat.mul_one, Array.toList_setIfInBounds, take_set _ _ _ (by rw [Array.length_toList, hcs]; exact hn), htake]
theorem own_prefix {w w' : World} {B n N g : Nat} {v u : Value} {xs ys : List Value} (h1 : w.ownsRow B 9 1 v n xs) (h2 : w.ownsRow B 9 1 u N ys) (e1 : v.ownBlock = some g) (e2 : u.ownBlock = some g) (h3 : w'.ownsRow B 9 1 u N ys) (hp : ys.take n = xs) (hn : n ≤ N) : w'.ownsRow B 9 1 v n xs := by
  rcases h1.2 with ⟨rfl, _⟩ | ⟨g1, cap1, cur1, rfl, hb1, hg1, hnc1, hcm1, hcs1, ht1⟩
  · cases e1
  · obtain rfl : g1 = g := by simpa [Value.ownBlock] using e1
    rcases h2.2 with ⟨rfl, _⟩ | ⟨g2, cap2, cur2, rfl, hb2, hg2, hnc2, hcm2, hcs2, ht2⟩
    · cases e2
    · obtain rfl : g2 = g1 := by simpa [Value.ownBlock] using e2
      rw [hg1] at hg2
      simp only [Option.some.injEq, Obj.cells.injEq, and_true] at hg2
      subst hg2
      have hcc : cap1 = cap2 := by omega
      subst hcc
      rcases h3.2 with ⟨e, _⟩ | ⟨g3, cap3, cur3, e3, hb3, hg3, hnc3, hcm3, hcs3, ht3⟩
      · cases e
      · simp only [Value.slice.injEq, Option.some.injEq, Addr.mk.injEq, and_true, true_and] at e3
        obtain ⟨rfl, rfl⟩ := e3
        refine ⟨h1.1, .inr ⟨g2, cap1, cur3, rfl, hb1, hg3, hnc1, hcm1, hcs3, ?_⟩⟩
        rw [Nat.mul_one] at ht3 ⊢
        rw [← hp, ← ht3, List.take_take, Nat.min_eq_left hn]
-- append that leaves the elder list as it was
set_option maxHeartbeats 800000 in
theorem append_keep (w : World) {ops : Array Oper} {rest : List Oper} {o : Oper} {a : Act} {Q : Exit → Act → World → Prop} (hgd : o.guard = none) (s x : Operand)
    (ho : o.op = .call { callee := .builtin .append, args := #[s, x], argTypes := #[22, 22] }) (B : Nat) (v : Value) (ts : List ByteArray) (y : ByteArray) (hs : a.eval s = v) (hown : Own w B v ts)
    (b : Nat) (hx : a.eval x = .slice (some ⟨b, 0, none⟩) 1 1) (hy : w.cell? ⟨b, 0, none⟩ = some (.string y)) (hz : (ts.length + 1) * 16 ≤ 140737488355328) (hB : B ≤ w.heap.size)
    (h : ∀ v' w', Own w' B v' (ts ++ [y]) → w.grownBy w' v.ownBlock → Own w' B v ts → (v'.ownBlock = v.ownBlock ∨ ∃ g, v'.ownBlock = some g ∧ w.heap.size ≤ g) → wpList Tryd.prog ops Q rest (a.put o.dst v') w') :
    wpList Tryd.prog ops Q (o :: rest) a w := by
  obtain ⟨i9, hi, hz0, hz1, hz2⟩ := info_parts hi9
  have hnews : ∀ (j : Nat) (u : Value), [Value.string y][j]? = some u → w.cell? (Addr.add ⟨b, 0, none⟩ j) = some u := by
    intro j u hu
    cases j with
    | zero =>
      obtain rfl : Value.string y = u := by simpa using hu
      rw [Addr.add_mid]
      exact hy
    | succ j => simp at hu
  rcases hown.2 with ⟨rfl, hn0⟩ | ⟨g, cap, cur, rfl, hb, hg, hnc, hcm, hcs, htake⟩
  · have ht : ts = [] := List.length_eq_zero_iff.1 hn0
    subst ht
    refine wpList_append_own_at w hgd s x 22 ho B 9 i9 (.string ByteArray.empty) 1 16 Tryd.underlying22 hi hz0 hz1 hz2 rfl (by decide) _ 0 [] hs hown ⟨b, 0, none⟩ 1 1 [.string y] hx rfl hnews (one_text _) (by unfold maxLen; omega) (by omega) hB ?_
    intro v' w' h1 h2 _ h4
    exact h v' w' h1 h2 (World.ownsRow_nil _ _ _ _) (h4.imp id (fun e => ⟨_, e, Nat.le_refl _⟩))
  · refine wpList_append_arg w hgd s x 22 ho 9 i9 (.string ByteArray.empty) 1 16 Tryd.underlying22 hi hz0 hz1 hz2 rfl (by decide) g 0 ts.length cap (ts.map Value.string) hs (by simp) ?_ ⟨b, 0, none⟩ 1 1 [.string y] hx rfl hnews (one_text _) ?_ (by unfold maxLen; omega) (by omega) ?_ ?_
    · intro j u hu
      have hj : j < ts.length := by have := (List.getElem?_eq_some_iff.1 hu).1; simpa using this
      rw [Nat.zero_add, World.ownsRow.cellAt hown j (by omega)]
      exact hu
    · intro hr j hj
      obtain rfl : j = 0 := by simpa using hj
      refine ⟨?_, World.ownsRow.frozenAt hown _⟩
      rw [cell_of_row _ _ _ _ _ _ hg]
      rw [Array.getElem?_eq_getElem (by rw [hcs]; omega)]
      rfl
    · intro hr
      have e : w.setCells g (0 + ts.length * 1) [.string y] = w.setCell ⟨g, ts.length, none⟩ (.string y) := by
        rw [Nat.zero_add, Nat.mul_one]; rfl
      rw [e]
      have hp := own_push hown (by omega) (.string y)
      have hst := World.ownsRow.stored hown ts.length (.string y)
      refine h _ _ (by unfold Own; rw [List.length_append, List.map_append]; exact hp) hst.2 ?_ (.inl rfl)
      have := hst.1
      rwa [List.set_eq_of_length_le (by simp)] at this
    · intro _ v' w' h1 h2
      refine h v' w' (by unfold Own; rw [List.length_append, List.map_append]; exact own_down h1 hB) (h2.but _) (World.ownsRow.kept hown h2 (.inr (by simp [Value.ownBlock]))) ?_
      rcases h1.2 with ⟨_, e⟩ | ⟨g', cap', cur', rfl, hb', _⟩
      · omega
      · exact .inr ⟨g', rfl, hb'⟩
-- a list grown by 64 marks: the elder list is as it was, and so is all that lay but its own row
set_option maxHeartbeats 1600000 in
theorem wide (B : Nat) (v : Value) (ts : List ByteArray) (y : ByteArray) (w : World) (hown : Own w B v ts) (hz : (ts.length + 64) * 16 ≤ 140737488355328) (hB : B ≤ w.heap.size) :
    Calls Tryd.prog 16 #[v, .string y] w fun e w' => e = .returned (.int .i64 ((ts.length + 64 : Nat) : Int)) ∧ w.grownBy w' v.ownBlock ∧ Own w' B v ts := by
  have HO : Hid (Own w B v ts) := hown
  have HV : Hid (∀ g, v.ownBlock = some g → g < w.heap.size) := fun g hg => (World.ownsRow.lt hown g hg).2
  obtain ⟨n, HN⟩ : ∃ n, Hid (ts.length = n) := ⟨_, rfl⟩
  rw [HN.out] at hz ⊢
  clear hown
  go_enter Tryd.func16, Tryd.ntmps16
  go_wp2
  go_loopw [0, 5] (fun u i wr => ∃ (k : Nat) (us : List ByteArray), k ≤ 64 ∧ i = .int .i64 k ∧ Hid (us.length = n + k ∧ us.take n = ts ∧ Own wr B u us ∧ Own wr B v ts ∧ w.grownBy wr v.ownBlock ∧ (u.ownBlock = v.ownBlock ∨ ∃ g, u.ownBlock = some g ∧ w.heap.size ≤ g))) (fun _ i _ => (64 - intOf i).toNat)
  case atStart => exact ⟨0, ts, by omega, rfl, HN.out, by rw [← HN.out, List.take_length], HO.out, HO.out, World.grownBy.refl _ _, .inl rfl⟩
  case round =>
    obtain ⟨k, us, hk, rfl, HL⟩ := hrel
    by_cases hlt : k < 64
    · have hlt' : (k : Int) < 64 := by omega
      have OU : Hid (Own (wr.alloc (.cells #[.string y] 9)) B u0 us) := HL.out.2.2.1.alloc _
      have OV : Hid (Own (wr.alloc (.cells #[.string y] 9)) B v ts) := HL.out.2.2.2.1.alloc _
      have hy : (wr.alloc (.cells #[.string y] 9)).cell? ⟨wr.heap.size, 0, none⟩ = some (.string y) := by rw [World.cell?_alloc_at _ _ _ _ rfl]; rfl
      have HY : Hid ((wr.alloc (.cells #[.string y] 9)).cell? ⟨wr.heap.size, 0, none⟩ = some (.string y)) := hy
      have HG : Hid (w.grownBy (wr.alloc (.cells #[.string y] 9)) v.ownBlock) := HL.out.2.2.2.2.1.andThen (World.grownBy_alloc wr _ none) (fun j e => by cases e)
      have hul : us.length = n + k := HL.out.1
      have HBB : Hid (B ≤ (wr.alloc (.cells #[.string y] 9)).heap.size) := by have := HL.out.2.2.2.2.1.size; show _ ≤ _; simp; omega
      have HLN : Hid ((us.length + 1) * 16 ≤ 140737488355328) := by show _ ≤ _; rw [hul]; omega
      clear hul hy
      go_wp2_with (at_builtin; refine append_keep _ rfl (.tmp 10) (.tmp 12) rfl B _ us y rfl OU.out wr.heap.size rfl HY.out HLN.out HBB.out ?_; intro v' w3 p1 p2 p3 p4; have P1 : Hid (Own w3 B v' (us ++ [y])) := p1; have P2 : Hid ((wr.alloc (.cells #[.string y] 9)).grownBy w3 u0.ownBlock) := p2; have P3 : Hid (Own w3 B u0 us) := p3; have P4 : Hid (v'.ownBlock = u0.ownBlock ∨ ∃ g, v'.ownBlock = some g ∧ (wr.alloc (.cells #[.string y] 9)).heap.size ≤ g) := p4; clear p1 p2 p3 p4)
      go_roundw
      case rel =>
        have hsz := HL.out.2.2.2.2.1.size
        have hsz1 : wr.heap.size ≤ (wr.alloc (.cells #[.string y] 9)).heap.size := by simp
        refine ⟨k + 1, us ++ [y], by omega, by go_num, ?_, ?_, P1.out, ?_, ?_, ?_⟩
        · rw [List.length_append, HL.out.1]; rfl
        · rw [List.take_append_of_le_length (by rw [HL.out.1]; omega)]; exact HL.out.2.1
        · rcases HL.out.2.2.2.2.2 with e | ⟨g, e, hg⟩
          · cases hvb : v.ownBlock with
            | none => exact World.ownsRow.kept OV.out P2.out (.inl hvb)
            | some g => exact own_prefix OV.out OU.out hvb (by rw [e]; exact hvb) P3.out (by rw [← List.map_take, HN.out, HL.out.2.1]) (by rw [HN.out, HL.out.1]; omega)
          · refine World.ownsRow.kept OV.out P2.out (.inr (fun e' => ?_))
            rw [e] at e'
            have := HV.out g e'
            omega
        · refine HG.out.andThen P2.out (fun j e' => ?_)
          rcases HL.out.2.2.2.2.2 with e | ⟨g, e, hg⟩
          · exact .inr (by rw [← e]; exact e')
          · rw [e] at e'
            obtain rfl := Option.some.inj e'
            exact .inl hg
        · rcases P4.out with e | ⟨g, e, hg⟩
          · rw [e]
            exact HL.out.2.2.2.2.2
          · exact .inr ⟨g, e, by omega⟩
      case measure => simp [intOf]; omega
    · have hlt' : ¬ (k : Int) < 64 := by omega
      obtain rfl : k = 64 := by omega
      obtain ⟨ua, uc, rfl⟩ := own_formS HL.out.2.2.1
      have hul : us.length = n + 64 := HL.out.1
      go_wp2
      go_ret
      exact ⟨by first | rfl | (congr 2), HL.out.2.2.2.2.1, HL.out.2.2.2.1⟩
end Go.Proofs.YtkanjkofdfmhhabDoor.jb
