import Derived.Test.YtmindflfjocjlaaGreatQ01
import Derived.Test.YtmindflfjocjlaaGreatQ00
import Derived.Maps.OwnOps
import Derived.StringKeys
import Derived.Deep.RegionHeld3
import Derived.Deep.DeepCutAuto
import Derived.BigQuiet
import Derived.Shelf.SlMaps.Clone
import Derived.Maps.RangeWalk
import Derived.Test.YtmindflfjocjlaaGreatSh
import Derived.Sort.OwnSorted
import Derived.OwnWalk
namespace Go.Proofs.YtmindflfjocjlaaGreat.yb
open Go.RowKit Go.PlainAid Go.Maps
open Go.Proofs.YtmindflfjocjlaaGreat.ca Go.Proofs.YtmindflfjocjlaaGreat.cb Go.Proofs.YtmindflfjocjlaaGreat.cp Go.Proofs.YtmindflfjocjlaaGreat.kp Go.Proofs.YtmindflfjocjlaaGreat.ka Go.Proofs.YtmindflfjocjlaaGreat.ya
set_option linter.unusedVariables false
set_option linter.unusedSimpArgs false

def recE (v : Value) : Option (DataW Unit × List MemPlace) :=
  match v with
  | .agg cs => (match cs.toList with
    | [.string s] => if s.size ≤ maxLen then some (.lit (.string (bs s)), []) else none
    | _ => none)
  | _ => none
theorem recE_mk {s : ByteArray} (h : s.size ≤ maxLen) : recE (.agg #[.string s]) = some (.lit (.string (bs s)), []) := by simp [recE, h]
theorem recE_inv {v : Value} {y : DataW Unit × List MemPlace} (h : recE v = some y) : ∃ s, v = .agg #[.string s] ∧ y = (.lit (.string (bs s)), []) ∧ s.size ≤ maxLen := by
  unfold recE at h
  split at h
  · rename_i cs
    split at h
    · rename_i s hs
      split at h
      · rename_i hl
        refine ⟨s, ?_, (Option.some.inj h).symm, hl⟩
        congr
        rw [← Array.toList_inj, hs]
      · cases h
    · cases h
  · cases h
theorem law : Keyed Tryz.prog 9 := string_keyed Tryz.underlying9
theorem zeroR (w : World) : (zeroValue 91).run Tryz.prog w = .ok (.agg #[.string ByteArray.empty]) w := by kernel_rfl
theorem key_is {s : ByteArray} (h : s.size ≤ maxLen) : keyOf Tryz.prog 9 (.string s) = some (.string (bs s)) := WideMaps.keyOf_string_mk Tryz.underlying9 h
def Mp (b : Nat) (r : List Rec) (w : World) : Prop := w.ownsMap Tryz.prog 9 recE b r.length (dat r)
theorem own_exact {w : World} {b n : Nat} {r : List Rec} (h : w.ownsMap Tryz.prog 9 recE b n (dat r)) : Mp b r w := by
  obtain ⟨es, clock, hb, F, hs, hD⟩ := h
  refine ⟨es, clock, hb, F, ?_, hD⟩
  have h1 := congrArg Maps.size hD
  rw [dat_size] at h1
  rw [h1]
  simp [Maps.size, length_sorted]
theorem Mp.lt {b : Nat} {r : List Rec} {w : World} (h : Mp b r w) : b < w.heap.size := World.ownsMap.lt h
theorem Mp.keep {b : Nat} {r : List Rec} {w w' : World} {A : Nat → Prop} (h : Mp b r w) (k : Kp A w w') (hn : ¬ A b) : Mp b r w' := by
  have hl := h.lt
  obtain ⟨es, clock, hb, F, hs, hD⟩ := h
  exact ⟨es, clock, (k.block b hl hn).trans hb, F, hs, hD⟩
theorem Mp.ne {b g : Nat} {r : List Rec} {w : World} {cur : Array Value} {T : Nat} {f : Nat × Nat} (h : Mp b r w) (hg : w.heap[g]? = some (.cells cur T f)) : b ≠ g := by
  rintro rfl
  obtain ⟨es, clock, hb, _⟩ := h
  rw [hb] at hg
  cases hg
theorem kp_turn {w w' : World} {b : Nat} (h : w.mapTurned w' b) : Kp (fun k => k = b) w w' := by
  have g := h.grown
  exact ⟨g.os, g.tape, g.output, g.size, fun k hk hn => g.block k hk (fun e => hn (Option.some.inj e))⟩
theorem Mp.srt {b : Nat} {r : List Rec} {w : World} (h : Mp b r w) : Srt r := by
  obtain ⟨es, clock, hb, F, hs, hD⟩ := h
  have hr := sorted_sorted law.one _ (fit_keys F) (fit_apart law F)
  unfold dat at hD
  rw [DataW.map.injEq] at hD
  rw [← hD] at hr
  unfold Srt
  rw [List.pairwise_map] at hr
  exact hr
section
variable (w : World) {ops : Array Oper} {rest : List Oper} {o : Oper} {a : Act} {Q : Exit → Act → World → Prop}
theorem wpList_look (hg : o.guard = none) (m x : Operand) (hop : o.op = Op.lookup 44 m x true) (b : Nat) (r : List Rec) (hm : a.eval m = .map (some b)) (hown : Mp b r w) (k : ByteArray) (hx : a.eval x = .string k) (hk : k.size ≤ maxLen)
    (hK : wpList Tryz.prog ops Q rest (a.put o.dst (.tuple #[.agg #[.string ((rget k r).getD ByteArray.empty)], .bool (rget k r).isSome])) w) : wpList Tryz.prog ops Q (o :: rest) a w :=
  wpList_lookup_own_ok w hg m x 44 hop 9 91 law Tryz.underlying44 recE (zeroR _) (.lit (.string (bs ByteArray.empty))) [] (recE_mk (by decide)) b r.length (dat r) hm hown (.string k) (.string (bs k)) hx (key_is hk) (fun v ps hv => by
    obtain ⟨s, rfl, hy, _⟩ := recE_inv hv
    have h1 := congrArg Prod.fst hy
    simp only at h1
    rw [dat_at] at h1
    have h2 : s = (rget k r).getD ByteArray.empty := by
      cases hg : rget k r with
      | none => rw [hg] at h1; simp only at h1; injection h1 with h1; injection h1 with h1; exact (bs_inj h1).symm
      | some d => rw [hg] at h1; simp only at h1; injection h1 with h1; injection h1 with h1; exact (bs_inj h1).symm
    rw [dat_has, h2]
    exact hK)
theorem wpList_set (hg : o.guard = none) (m x v : Operand) (hop : o.op = Op.mapUpdate 44 m x v) (b : Nat) (r : List Rec) (hm : a.eval m = .map (some b)) (hown : Mp b r w) (hn : r.length < maxLen) (k d : ByteArray) (hx : a.eval x = .string k) (hv : a.eval v = .agg #[.string d]) (hk : k.size ≤ maxLen) (hd : d.size ≤ maxLen)
    (hK : ∀ w', Mp b (put k d r) w' → Kp (fun k => k = b) w w' → wpList Tryz.prog ops Q rest (a.put o.dst undef) w') : wpList Tryz.prog ops Q (o :: rest) a w :=
  wpList_mapUpdate_in w hg m x v 44 hop 9 91 law Tryz.underlying44 recE b r.length (dat r) hm hown hn (.string k) (.agg #[.string d]) (.string (bs k)) hx hv (key_is hk) (.lit (.string (bs d))) [] (recE_mk hd) (fun w' h1 h2 => by
    rw [dat_put] at h1
    exact hK w' (own_exact h1) (kp_turn h2))
theorem wpList_cut (hg : o.guard = none) (m x : Operand) (hop : o.op = Op.call { callee := Callee.builtin Builtin.delete, args := #[m, x], argTypes := #[44, 9] }) (b : Nat) (r : List Rec) (hm : a.eval m = .map (some b)) (hown : Mp b r w) (k : ByteArray) (hx : a.eval x = .string k) (hk : k.size ≤ maxLen)
    (hK : ∀ w', Mp b (del k r) w' → Kp (fun k => k = b) w w' → wpList Tryz.prog ops Q rest (a.put o.dst (.tuple #[])) w') : wpList Tryz.prog ops Q (o :: rest) a w :=
  wpList_delete_own w hg m x 44 9 hop 91 law Tryz.underlying44 recE b r.length (dat r) hm hown (.string k) (.string (bs k)) hx (key_is hk) (fun w' h1 h2 => by
    rw [dat_del] at h1
    exact hK w' (own_exact h1) (kp_turn h2))
end

theorem putM (b : Nat) (r : List Rec) (k d : ByteArray) (w : World) (h : Mp b r w) (hk : k.size ≤ maxLen) (hd : d.size ≤ maxLen) (hl : r.length < maxLen) :
    Calls Tryz.prog 64 #[.map (some b), .string k, .string d] w fun e w' => e = .returned (.tuple #[]) ∧ Mp b (put k d r) w' ∧ Kp (fun k => k = b) w w' := by
  have H : Hid (Mp b r w) := h
  clear h
  go_enter Tryz.func64, Tryz.ntmps64
  go_wp2_with (first | (at_mapUpdate; refine wpList_set _ rfl _ _ _ rfl b r rfl H.out hl k d rfl rfl hk hd ?_; intro w1 h1 h2) | go_in)
  go_end0
  exact ⟨rfl, h1, h2⟩
theorem cutM (b : Nat) (r : List Rec) (k d : ByteArray) (w : World) (h : Mp b r w) (hk : k.size ≤ maxLen) :
    Calls Tryz.prog 84 #[.map (some b), .string k, .string d] w fun e w' => e = .returned (.tuple #[]) ∧ Mp b (del k r) w' ∧ Kp (fun k => k = b) w w' := by
  have H : Hid (Mp b r w) := h
  clear h
  go_enter Tryz.func84, Tryz.ntmps84
  go_wp2_with (first | (at_delete; refine wpList_cut _ rfl _ _ rfl b r rfl H.out k rfl hk ?_; intro w1 h1 h2) | go_in)
  go_end0
  exact ⟨rfl, h1, h2⟩
theorem countC (k d : ByteArray) (w : World) (hk : k.size ≤ 140737488355328) (hd : d.size ≤ 140737488355328) :
    Calls Tryz.prog 62 #[.string k, .string d] w fun e w' => e = .returned (.int .i64 (cnt (k, d) : Nat)) ∧ w' = w := by
  go_enter Tryz.func62, Tryz.ntmps62
  go_wp2
  go_ret
  exact ⟨by simp only [cnt]; congr 2, rfl⟩
theorem keyGoesC (k : ByteArray) (w : World) : Calls Tryz.prog 86 #[.string k] w fun e w' => e = .returned (.bool (decide (1 ≤ k.size ∧ k.size ≤ 64))) ∧ w' = w := by
  by_cases h1 : 1 ≤ k.size
  · have h1' : decide ((1 : Int) ≤ k.size) = true := by simp; omega
    by_cases h2 : k.size ≤ 64
    · have h2' : decide ((k.size : Int) ≤ 64) = true := by simp; omega
      go_enter Tryz.func86, Tryz.ntmps86
      go_wp2
      go_ret
      exact ⟨by simp [h1, h2], rfl⟩
    · have h2' : decide ((k.size : Int) ≤ 64) = false := by simp; omega
      go_enter Tryz.func86, Tryz.ntmps86
      go_wp2
      go_ret
      exact ⟨by simp [h1, h2], rfl⟩
  · have h1' : decide ((1 : Int) ≤ k.size) = false := by simp; omega
    go_enter Tryz.func86, Tryz.ntmps86
    go_wp2
    go_ret
    exact ⟨by simp [h1], rfl⟩
theorem dataGoC (d : ByteArray) (w : World) : Calls Tryz.prog 60 #[.string d] w fun e w' => e = .returned (.bool (decide (d.size ≤ 1048576))) ∧ w' = w := by
  go_enter Tryz.func60, Tryz.ntmps60
  go_wp2
  go_ret
  exact ⟨by congr 3; simp; omega, rfl⟩
theorem capC (c : Int) (w : World) : Calls Tryz.prog 16 #[.int .i64 c] w fun e w' => e = .returned (.bool (decide (0 ≤ c ∧ c ≤ 1073741824))) ∧ w' = w := by
  by_cases h1 : 0 ≤ c
  · have h1' : decide ((0 : Int) ≤ c) = true := by simp; omega
    by_cases h2 : c ≤ 1073741824
    · have h2' : decide (c ≤ 1073741824) = true := by simp; omega
      go_enter Tryz.func16, Tryz.ntmps16
      go_wp2
      go_ret
      exact ⟨by simp [h1, h2], rfl⟩
    · have h2' : decide (c ≤ 1073741824) = false := by simp; omega
      go_enter Tryz.func16, Tryz.ntmps16
      go_wp2
      go_ret
      exact ⟨by simp [h1, h2], rfl⟩
  · have h1' : decide ((0 : Int) ≤ c) = false := by simp; omega
    go_enter Tryz.func16, Tryz.ntmps16
    go_wp2
    go_ret
    exact ⟨by simp [h1], rfl⟩
end Go.Proofs.YtmindflfjocjlaaGreat.yb

namespace Go.Proofs.YtmindflfjocjlaaGreat.mc
open Go.Shelf Go.RowKit Go.Maps
open Go.Proofs.YtmindflfjocjlaaGreat.ya Go.Proofs.YtmindflfjocjlaaGreat.yb
set_option linter.unusedVariables false
def ren : Go.Shelf.Ren := ⟨fun | 5 => 45 | 7 => 77 | n => n, fun | 4 => 4 | 20 => 20 | 23 => 44 | 25 => 9 | 3 => 91 | n => n, fun | n => n⟩
theorem lays : Go.Proofs.SlLaysW.n5 Tryz.prog ren := {
  mixed := by kernel_rfl
  f5 := ⟨Tryz.f45.name, by kernel_rfl, Tryz.func45.trans (congrArg some (by kernel_rfl))⟩
  f7 := Tryz.func77.trans (congrArg some (by kernel_rfl))
  t4 := Tryz.underlying4
  a4 := Tryz.isAgg4
  z4 := Tryz.sizeOf4
  v4 := Tryz.zeroValue4
  t20 := Tryz.underlying20
  a20 := Tryz.isAgg20
  z20 := Tryz.sizeOf20
  v20 := Tryz.zeroValue20
  t23 := Tryz.underlying44
  a23 := Tryz.isAgg44
  z23 := Tryz.sizeOf44
  v23 := Tryz.zeroValue44 }
theorem cloneM (b : Nat) (r : List Rec) (w : World) (h : Mp b r w) :
    Calls Tryz.prog 45 #[.map (some b)] w fun e w' => e = .returned (.map (some w.heap.size)) ∧ Mp w.heap.size r w' ∧ Below w.heap.size w w' := by
  have C := AnyW.maps_Clone_owns lays 9 recE b r.length (dat r) w h
  exact C.mono fun e w' ⟨h1, h2, _, h3⟩ => ⟨h1, h2, h3⟩
end Go.Proofs.YtmindflfjocjlaaGreat.mc

namespace Go.Proofs.YtmindflfjocjlaaGreat.yc
open Go.RowKit Go.PlainAid Go.Maps
open Go.Proofs.YtmindflfjocjlaaGreat.ca Go.Proofs.YtmindflfjocjlaaGreat.cb Go.Proofs.YtmindflfjocjlaaGreat.cp Go.Proofs.YtmindflfjocjlaaGreat.kp Go.Proofs.YtmindflfjocjlaaGreat.ka Go.Proofs.YtmindflfjocjlaaGreat.ya Go.Proofs.YtmindflfjocjlaaGreat.yb Go.Proofs.YtmindflfjocjlaaGreat.mc
set_option linter.unusedVariables false
set_option linter.unusedSimpArgs false
-- records that a store can hold
def OkR (r : List Rec) : Prop := ∀ p ∈ r, 1 ≤ p.1.size ∧ p.1.size ≤ 64 ∧ p.2.size ≤ 1048576
theorem get_mem {k d : ByteArray} {r : List Rec} (h : rget k r = some d) : (k, d) ∈ r := by
  unfold rget at h
  rw [Option.map_eq_some_iff] at h
  obtain ⟨p, h1, rfl⟩ := h
  have h2 := List.find?_some h1
  have h3 := List.mem_of_find?_eq_some h1
  rw [show k = p.1 from (by simpa using h2 : p.1 = k).symm]
  exact h3
theorem OkR.get {k d : ByteArray} {r : List Rec} (h : OkR r) (hg : rget k r = some d) : 1 ≤ k.size ∧ k.size ≤ 64 ∧ d.size ≤ 1048576 := h _ (get_mem hg)
theorem OkR.getD {k : ByteArray} {r : List Rec} (h : OkR r) : ((rget k r).getD ByteArray.empty).size ≤ 1048576 := by
  cases hg : rget k r with
  | none => exact Nat.zero_le _
  | some d => exact (h.get hg).2.2
theorem OkR.del {k : ByteArray} {r : List Rec} (h : OkR r) : OkR (del k r) := fun p hp => h p (mem_del.1 hp).1
theorem OkR.put {k d : ByteArray} {r : List Rec} (h : OkR r) (h1 : 1 ≤ k.size) (h2 : k.size ≤ 64) (h3 : d.size ≤ 1048576) : OkR (put k d r) := fun p hp => by
  rcases mem_put.1 hp with rfl | ⟨h4, _⟩
  · exact ⟨h1, h2, h3⟩
  · exact h p h4
theorem OkR.tot {r : List Rec} (h : OkR r) : ya.tot r ≤ r.length * 1048656 := by
  induction r with
  | nil => simp [ya.tot]
  | cons p r ih =>
    have h1 := h p (by simp)
    have h2 := ih (fun q hq => h q (by simp [hq]))
    simp only [ya.tot, cnt, List.length_cons]
    omega
theorem at0_le {k : ByteArray} {r : List Rec} (h : OkR r) : at0 k r ≤ 1048656 := by
  unfold at0
  split
  · rename_i d hg
    have := h.get hg
    simp only [cnt]; omega
  · omega

set_option maxHeartbeats 1600000 in
theorem countsM (b : Nat) (r : List Rec) (k : ByteArray) (w : World) (h : Mp b r w) (hk : k.size ≤ 140737488355328) (hr : OkR r) :
    Calls Tryz.prog 61 #[.map (some b), .string k] w fun e w' => e = .returned (.int .i64 (at0 k r : Nat)) ∧ Below w.heap.size w w' := by
  have H : Hid (Mp b r w) := h
  have hkm : k.size ≤ maxLen := by unfold maxLen; omega
  have hd := hr.getD (k := k)
  have HA : Hid (at0 k r = if (rget k r).isSome then cnt (k, (rget k r).getD ByteArray.empty) else 0) := by
    show _ = _
    unfold at0
    cases rget k r <;> rfl
  have CC : Hid (∀ (w : World) (d : ByteArray), d.size ≤ 140737488355328 → Calls _ _ _ _ _) := fun w d hd => countC k d w hk hd
  have HB : Hid (∀ o, Below w.heap.size w (w.alloc o)) := fun o => (Below.refl _ w).alloc (Nat.le_refl _) _
  rw [HA.out]
  clear h hr HA
  cases hg : (rget k r).isSome with
  | false =>
    go_enter Tryz.func61, Tryz.ntmps61
    go_wp2_with (first | (at_lookup; refine wpList_look _ rfl _ _ rfl b r rfl H.out k rfl hkm ?_; rw [hg]) | go_in)
    go_ret
    exact ⟨rfl, by first | exact HB.out _ | exact (HB.out _).setCell (Nat.le_refl _) _⟩
  | true =>
    go_enter Tryz.func61, Tryz.ntmps61
    go_wp2_with (first | (at_lookup; refine wpList_look _ rfl _ _ rfl b r rfl H.out k rfl hkm ?_; rw [hg]) | (go_at_call 62; refine (CC.out _ _ (by omega)).mono ?_; rintro _ w1 ⟨rfl, rfl⟩) | go_in)
    go_ret
    exact ⟨rfl, by first | exact HB.out _ | exact (HB.out _).setCell (Nat.le_refl _) _⟩

-- the step of a range over records
section
variable (w : World) {ops : Array Oper} {rest : List Oper} {o : Oper} {a : Act} {Q : Exit → Act → World → Prop}
theorem wpList_nextR (hg : o.guard = none) (it : Operand) (hop : o.op = Op.next it false) (b g n : Nat) (r : List Rec) (left : Lit → Bool) (c : Nat) (hit : a.eval it = .pointer (some ⟨g, 0, none⟩)) (h : w.ranges Tryz.prog 9 recE b g n (dat r) left c)
    (hDone : (∀ k, left k = false) → wpList Tryz.prog ops Q rest (a.put o.dst (.tuple #[.bool false])) w)
    (hMore : ∀ (x d : ByteArray) (w' : World) (c' : Nat), left (.string (bs x)) = true → rget x r = some d → w'.ranges Tryz.prog 9 recE b g n (dat r) (fun z => left z && !z.sameKey (.string (bs x))) c' → c' < c → w.grownBy w' (some g) → w'.heap.size = w.heap.size →
      (Instr.entry (.pointer (some ⟨g, 0, none⟩))).run Tryz.prog w' = .ok (.tuple #[.string x, .agg #[.string d]]) w' → wpList Tryz.prog ops Q rest (a.put o.dst (.tuple #[.bool true, .string x, .agg #[.string d]])) w') :
    wpList Tryz.prog ops Q (o :: rest) a w :=
  wpList_next_ranges w hg it hop 9 law recE Value.string (fun s => Value.agg #[.string s]) (fun key kl hk => by obtain ⟨s, h1, _⟩ := WideMaps.string_of_keyOf Tryz.underlying9 hk; exact ⟨s, h1⟩) (fun v y hv => by obtain ⟨s, h1, _⟩ := recE_inv hv; exact ⟨s, h1⟩)
    b g n (dat r) left c hit h (fun _ h0 => hDone h0) (fun x d kl y w' c' hkey hlk hv hat hrg hlt hgr hsz hen => by
      obtain ⟨s, h1, h2, h3⟩ := WideMaps.string_of_keyOf Tryz.underlying9 hkey
      injection h1 with h1
      subst h1 h2
      obtain ⟨t, h4, h5, h6⟩ := recE_inv hv
      have h4' : Value.agg #[Value.string d] = Value.agg #[Value.string t] := h4
      injection h4' with h4'
      have h4a := congrArg Array.toList h4'
      injection h4a with h4a _
      injection h4a with h4a
      subst h4a
      refine hMore x d w' c' hlk ?_ hrg hlt hgr hsz hen
      have h7 := hat .nil
      rw [h5] at h7
      have h8 := dat_at x r .nil
      have h9 : (dat r).atKey (.string (bs x)) .nil = .lit (.string (bs d)) := h7
      rw [h8] at h9
      cases hq : rget x r with
      | none => rw [hq] at h9; cases h9
      | some e => rw [hq] at h9; have h9 : (DataW.lit (Lit.string (bs e)) : DataW Unit) = .lit (.string (bs d)) := h9; exact congrArg some (bs_inj (Lit.string.inj (DataW.lit.inj h9))))
end
def Fl (left : Lit → Bool) (r : List Rec) : List Rec := r.filter fun p => left (.string (bs p.1))
theorem fl_all (r : List Rec) : Fl (Maps.has (dat r)) r = r := by
  unfold Fl
  rw [List.filter_eq_self]
  intro p hp
  rw [dat_has, Option.isSome_iff_ne_none]
  intro h
  exact get_none.1 h p hp rfl
theorem fl_none (left : Lit → Bool) (r : List Rec) (h : ∀ k, left k = false) : Fl left r = [] := by
  unfold Fl
  rw [List.filter_eq_nil_iff]
  intro p _
  rw [h]; decide
theorem fl_next (left : Lit → Bool) (r : List Rec) (x : ByteArray) : Fl (fun z => left z && !z.sameKey (.string (bs x))) r = del x (Fl left r) := by
  unfold Fl del
  rw [List.filter_filter]
  apply List.filter_congr
  intro p _
  rw [← same_key p x, Bool.and_comm]
  rfl
theorem fl_get {left : Lit → Bool} {r : List Rec} {x d : ByteArray} (hs : Srt r) (h1 : left (.string (bs x)) = true) (h2 : rget x r = some d) : rget x (Fl left r) = some d :=
  (get_some (List.Pairwise.filter _ hs)).2 (List.mem_filter.2 ⟨get_mem h2, h1⟩)
theorem fl_tot {left : Lit → Bool} {r : List Rec} {x d : ByteArray} (hs : Srt r) (h1 : left (.string (bs x)) = true) (h2 : rget x r = some d) : tot (Fl left r) = tot (Fl (fun z => left z && !z.sameKey (.string (bs x))) r) + cnt (x, d) := by
  rw [fl_next]
  have h3 : Srt (Fl left r) := List.Pairwise.filter _ hs
  rw [tot_del x _ h3]
  unfold at0
  rw [fl_get hs h1 h2]
set_option maxHeartbeats 3200000 in
theorem totalM (b : Nat) (r : List Rec) (w : World) (h : Mp b r w) (hr : OkR r) (hl : r.length ≤ 4398046511104) :
    Calls Tryz.prog 46 #[.map (some b)] w fun e w' => e = .returned (.int .i64 (tot r : Nat)) ∧ Below w.heap.size w w' := by
  have H : Hid (Mp b r w) := h
  have hs := h.srt
  have ht : tot r ≤ 4612037862148276224 := Nat.le_trans hr.tot (by omega)
  have CC : Hid (∀ (w : World) (k d : ByteArray), k.size ≤ 140737488355328 → d.size ≤ 140737488355328 → Calls _ _ _ _ _) := fun w k d hk hd => countC k d w hk hd
  have HS : Hid (Srt r ∧ OkR r) := ⟨hs, hr⟩
  obtain ⟨T, HT⟩ : ∃ T, Hid (tot r = T) := ⟨_, rfl⟩
  rw [HT.out] at ht ⊢
  obtain ⟨B, HB⟩ : ∃ B, B = w.heap.size := ⟨_, rfl⟩
  have HB0 : Hid (B = w.heap.size) := HB
  rw [← HB]
  have hbB : b < B := by rw [HB]; exact h.lt
  clear h hr hs HB
  go_enter Tryz.func46, Tryz.ntmps46
  go_wp2_with (first | (at_range; refine wpList_range_own _ rfl _ 44 rfl 9 91 law Tryz.underlying44 recE b r.length (dat r) rfl H.out ?_; rw [← HB0.out]; intro w0 hrg0 hg0 hs0) | go_in)
  go_frame
  go_loopw [3] (fun s wr => ∃ (left : Lit → Bool) (c m : Nat), s = .int .i64 m ∧ m ≤ T ∧ Hid (m + tot (Fl left r) = T ∧ wr.ranges Tryz.prog 9 recE b B r.length (dat r) left c ∧ Below B w wr)) (fun _ wr => wr.rangeLeft b B)
  case atStart =>
    refine ⟨_, _, 0, rfl, Nat.zero_le _, ?_, hrg0, ?_⟩
    · rw [fl_all, HT.out]; omega
    · exact (Below.refl B w).grown hg0 (by rw [HB0.out]; exact Nat.le_refl _) (by intro j hj; cases hj)
  case round =>
    clear hrg0 hg0 hs0
    obtain ⟨left, c, m, rfl, hm, HH⟩ := hrel
    go_wp2_with (first | (at_next; refine wpList_nextR _ rfl _ rfl b B r.length r left c rfl HH.out.2.1 ?_ ?_) | go_in)
    · intro h0
      have HE : Hid (m = T) := by
        show _ = _
        have := HH.out.1
        rw [fl_none left r h0] at this
        simpa [tot] using this
      have HO : Hid (Below B w wr) := HH.out.2.2
      clear HH
      go_wp2
      go_ret
      exact ⟨by rw [HE.out]; rfl, HO.out⟩
    · intro x d w1 c1 hlx hgx hrg1 hlt hgr hsz hen
      have h4 := HS.out.2.get hgx
      have hft := fl_tot HS.out.1 hlx hgx
      have hmT := HH.out.1
      have hc : cnt (x, d) = x.size + d.size + 16 := rfl
      have HB1 : Hid (Below B w w1) := HH.out.2.2.grown hgr (by have := HH.out.2.2.size; rw [HB0.out]; exact this) (by intro j hj; injection hj with hj; omega)
      have HR1 : Hid (w1.ranges Tryz.prog 9 recE b B r.length (dat r) (fun z => left z && !z.sameKey (.string (bs x))) c1) := hrg1
      have HN : Hid (m + cnt (x, d) + tot (Fl (fun z => left z && !z.sameKey (.string (bs x))) r) = T) := by show _ = _; omega
      have HM : Hid (c1 < c ∧ wr.rangeLeft b B = c) := ⟨hlt, HH.out.2.1.left_eq⟩
      have hx : x.size ≤ 140737488355328 := by omega
      have hd : d.size ≤ 140737488355328 := by omega
      have hmc : m + cnt (x, d) ≤ T := by omega
      have hsz1 : B ≤ w1.heap.size := by have := HB1.out.size; rw [HB0.out]; exact this
      obtain ⟨q, HQ⟩ : ∃ q, Hid (cnt (x, d) = q) := ⟨_, rfl⟩
      have HC2 : Hid (∀ w, Calls _ _ _ _ _) := fun w => CC.out w x d hx hd
      rw [HQ.out] at hmc HN HC2
      clear hrg1 hlx hgx hft hmT hc HH h4 hgr hlt
      go_wp2_with (first | (go_at_call 62; refine (HC2.out _).mono ?_; rintro _ w2 ⟨rfl, rfl⟩) | go_in)
      go_roundw
      case rel => exact ⟨_, c1, m + q, by go_num, hmc, HN.out, by first | exact (HR1.out.alloc _) | exact (HR1.out.alloc _).kept (World.grownBy_setCell _ _ _) (by simp) (by simp), by first | exact HB1.out.alloc hsz1 _ | exact (HB1.out.alloc hsz1 _).setCell hsz1 _⟩
      case measure => rw [HM.out.2]; first | (rw [(HR1.out.alloc _).left_eq]; exact HM.out.1)
end Go.Proofs.YtmindflfjocjlaaGreat.yc

namespace Go.Proofs.YtmindflfjocjlaaGreat.yd
open Go.RowKit Go.PlainAid Go.Maps Go.Shelf Go.Sort
open Go.Proofs.YtmindflfjocjlaaGreat.ca Go.Proofs.YtmindflfjocjlaaGreat.cb Go.Proofs.YtmindflfjocjlaaGreat.cp Go.Proofs.YtmindflfjocjlaaGreat.kp Go.Proofs.YtmindflfjocjlaaGreat.ka Go.Proofs.YtmindflfjocjlaaGreat.ya Go.Proofs.YtmindflfjocjlaaGreat.yb Go.Proofs.YtmindflfjocjlaaGreat.yc Go.Proofs.YtmindflfjocjlaaGreat.sh
set_option linter.unusedVariables false
set_option linter.unusedSimpArgs false
def keysL (pre : ByteArray) (r : List Rec) : List ByteArray := (r.filter fun p => Lib.hasPrefix (bs p.1) (bs pre)).map (·.1)
theorem mem_keysL {pre x : ByteArray} {r : List Rec} : x ∈ keysL pre r ↔ (rget x r).isSome = true ∧ Lib.hasPrefix (bs x) (bs pre) = true := by
  unfold keysL
  rw [List.mem_map]
  constructor
  · rintro ⟨p, h1, rfl⟩
    obtain ⟨h2, h3⟩ := List.mem_filter.1 h1
    refine ⟨?_, h3⟩
    rw [Option.isSome_iff_ne_none]
    exact fun e => get_none.1 e p h2 rfl
  · rintro ⟨h1, h2⟩
    obtain ⟨d, hd⟩ := Option.isSome_iff_exists.1 h1
    exact ⟨(x, d), List.mem_filter.2 ⟨get_mem hd, h2⟩, rfl⟩
theorem keysL_srt {pre : ByteArray} {r : List Rec} (h : Srt r) : (keysL pre r).Pairwise fun a b => lt a b = true := by
  unfold keysL
  rw [List.pairwise_map]
  exact List.Pairwise.filter _ h
theorem keysL_nodup {pre : ByteArray} {r : List Rec} (h : Srt r) : (keysL pre r).Nodup := (keysL_srt h).imp (fun {a b} h => lt_ne h)
def Coll (pre : ByteArray) (r : List Rec) (left : Lit → Bool) (xs : List ByteArray) : Prop := xs.Nodup ∧ ∀ x, x ∈ xs ↔ ((rget x r).isSome = true ∧ left (.string (bs x)) = false) ∧ Lib.hasPrefix (bs x) (bs pre) = true
theorem Coll.start (pre : ByteArray) (r : List Rec) : Coll pre r (Maps.has (dat r)) [] := ⟨List.nodup_nil, fun x => by rw [dat_has]; cases (rget x r).isSome <;> simp⟩
theorem skey (x y : ByteArray) : Lit.sameKey (.string (bs x)) (.string (bs y)) = decide (x = y) := bs_eq x y
theorem Coll.step {pre x d : ByteArray} {r : List Rec} {left : Lit → Bool} {xs : List ByteArray} (h : Coll pre r left xs) (hl : left (.string (bs x)) = true) (hg : rget x r = some d) : Coll pre r (fun z => left z && !z.sameKey (.string (bs x))) (if Lib.hasPrefix (bs x) (bs pre) then xs ++ [x] else xs) := by
  have hn : x ∉ xs := fun hx => by have := ((h.2 x).1 hx).1.2; rw [hl] at this; cases this
  split
  · rename_i hp
    refine ⟨List.nodup_append.2 ⟨h.1, by simp, fun a ha b hb => by simp at hb; subst hb; exact fun e => hn (e ▸ ha)⟩, fun y => ?_⟩
    by_cases e : y = x
    · subst e; simp [skey, hg, hp]
    · simp [h.2 y, e, skey]
  · rename_i hp
    refine ⟨h.1, fun y => ?_⟩
    by_cases e : y = x
    · subst e; simp [hn, hp]
    · simp [h.2 y, e, skey]
theorem Coll.done {pre : ByteArray} {r : List Rec} {left : Lit → Bool} {xs : List ByteArray} (h : Coll pre r left xs) (hs : Srt r) (hl : ∀ k, left k = false) : ((xs.map bs).mergeSort fun x y => decide (x ≤ y)) = (keysL pre r).map bs := by
  have hp : xs.Perm (keysL pre r) := (List.perm_ext_iff_of_nodup h.1 (keysL_nodup hs)).2 fun x => by rw [h.2 x, mem_keysL, hl]; simp
  rw [mergeSort_of_perm (hp.map bs)]
  apply List.mergeSort_of_pairwise
  rw [List.pairwise_map]
  refine (keysL_srt hs).imp fun {a b} h => ?_
  rw [lt_iff] at h
  simp only [decide_eq_true_eq] at h ⊢
  exact List.le_of_lt h
theorem enc_map (xs : List ByteArray) : xs.map Value.string = (xs.map bs).map encStr := by
  rw [List.map_map]
  apply List.map_congr_left
  intro x _
  simp [encStr, bs]
theorem below_grownBy {B : Nat} {a w w' : World} {row : Option Nat} (h : Below B a w) (hg : w.grownBy w' row) (hB : B ≤ a.heap.size) (hr : ∀ j, row = some j → B ≤ j) : Below B a w' := h.grown hg (Nat.le_trans hB h.size) (fun j hj => hr j hj)
theorem sortC (B : Nat) (v : Value) (xs : List ByteArray) (w : World) (h : w.ownsRow B 9 1 v xs.length (xs.map Value.string)) (hl : xs.length < 4611686018427387904) :
    Calls Tryz.prog 90 #[v] w fun e w' => e = .returned (.tuple #[]) ∧ (∃ ts : List ByteArray, ts.map bs = ((xs.map bs).mergeSort fun x y => decide (x ≤ y)) ∧ w'.ownsRow B 9 1 v xs.length (ts.map Value.string)) ∧ w.grownBy w' v.ownBlock := by
  rcases h.2 with ⟨rfl, h0⟩ | ⟨g, cap, cur, rfl, hbase, hb, h1, h2, h3, h4⟩
  · have hx : xs = [] := by
      cases xs with
      | nil => rfl
      | cons x r => simp at h0
    subst hx
    refine (Any.slices_Sort_string_none lays190 none 0 w).mono ?_
    rintro e w' ⟨rfl, rfl⟩
    exact ⟨rfl, ⟨[], by simp, h⟩, ⟨rfl, rfl, rfl, Nat.le_refl _, fun _ _ _ => rfl⟩⟩
  · have hH : Holds encStr w g 0 (xs.map bs).toArray := holds_of_block hb (by rw [List.length_map, ← enc_map]; simpa using h4)
    have hlen : (xs.map bs).length = xs.length := by simp
    have C := Any.slices_Sort_string lays190 g 0 cap (xs.map bs) w hH (Array.getElem?_eq_some_iff.1 hb).1 (by rw [hlen]; exact hl)
    rw [hlen] at C
    refine C.mono ?_
    rintro e w' ⟨rfl, n, os, rfl⟩
    have hts : ∀ l : List (List UInt8), ∃ ts : List ByteArray, ts.map bs = l := fun l => ⟨l.map fun x => ⟨x.toArray⟩, by rw [List.map_map]; apply List.ext_getElem <;> simp [bs]⟩
    obtain ⟨ts, hts⟩ := hts ((xs.map bs).mergeSort fun x y => decide (x ≤ y))
    refine ⟨rfl, ⟨ts, hts, ?_⟩, grownBy_sorted _⟩
    rw [enc_map, hts]
    have := ownsRow_sorted (n := n) (os := os) (ss := xs.map bs) (ts := (xs.map bs).mergeSort fun x y => decide (x ≤ y)) (by simp) hbase hb (by rw [hlen]; exact h1) h2 h3
    rw [hlen] at this
    exact this
theorem map_bs_inj {xs ys : List ByteArray} (h : xs.map bs = ys.map bs) : xs = ys := by
  induction xs generalizing ys with
  | nil => cases ys with
    | nil => rfl
    | cons y ys => simp at h
  | cons x xs ih => cases ys with
    | nil => simp at h
    | cons y ys =>
      simp only [List.map_cons, List.cons.injEq] at h
      rw [bs_inj h.1, ih h.2]
set_option maxHeartbeats 3200000 in
theorem keysM (b : Nat) (r : List Rec) (pre : ByteArray) (w : World) (h : Mp b r w) (hl : r.length ≤ 4398046511104) :
    Calls Tryz.prog 72 #[.map (some b), .string pre] w fun e w' => ∃ v, e = .returned v ∧ w'.ownsRow w.heap.size 9 1 v (keysL pre r).length ((keysL pre r).map Value.string) ∧ Below w.heap.size w w' := by
  obtain ⟨i9, hi, hz0, hz1, hz2⟩ := info_parts hi9
  have HIN : Hid (_ ∧ _ ∧ _ ∧ _) := ⟨hi, hz0, hz1, hz2⟩
  clear hi hz0 hz1 hz2
  have H : Hid (Mp b r w) := h
  have HS : Hid (Srt r) := h.srt
  have CP : Hid (∀ (w : World) (x : ByteArray), Calls Tryz.prog 89 #[.string x, .string pre] w fun e w' => e = .returned (.bool (Lib.hasPrefix (bs x) (bs pre))) ∧ w' = w) := fun w x => Any.strings_HasPrefix lays99 x pre w
  obtain ⟨B, HB⟩ : ∃ B, B = w.heap.size := ⟨_, rfl⟩
  have HB0 : Hid (B = w.heap.size) := HB
  have HBr : Hid (Below B w w) := Below.refl _ _
  rw [← HB]
  have hbB : b < B := by rw [HB]; exact h.lt
  clear h HB
  go_enter Tryz.func72, Tryz.ntmps72
  go_wp2_with (first | (at_range; refine wpList_range_own _ rfl _ 44 rfl 9 91 law Tryz.underlying44 recE b r.length (dat r) rfl H.out ?_; rw [← HB0.out]; intro w0 hrg0 hg0 hs0) | go_in)
  go_frame
  go_loopw [5] (fun v wr => ∃ (left : Lit → Bool) (c : Nat) (xs : List ByteArray), xs.length + c ≤ r.length ∧ Hid (Coll pre r left xs ∧ wr.ranges Tryz.prog 9 recE b B r.length (dat r) left c ∧ wr.ownsRow B 9 1 v xs.length (xs.map Value.string) ∧ Below B w wr)) (fun _ wr => wr.rangeLeft b B)
  case atStart =>
    refine ⟨_, _, [], by rw [dat_size]; simp, Coll.start pre r, hrg0, World.ownsRow_nil _ _ _ _, ?_⟩
    exact below_grownBy HBr.out hg0 (by rw [HB0.out]; exact Nat.le_refl _) (by intro j hj; cases hj)
  case round =>
    clear hrg0 hg0 hs0
    obtain ⟨left, c, xs, hxc, HH⟩ := hrel
    have hfm : ∃ a k, u5 = .slice a xs.length k := own_formS HH.out.2.2.1
    go_wp2_with (first | (at_next; refine wpList_nextR _ rfl _ rfl b B r.length r left c rfl HH.out.2.1 ?_ ?_) | go_in)
    · intro h0
      have HD : Hid (((xs.map bs).mergeSort fun x y => decide (x ≤ y)) = (keysL pre r).map bs) := HH.out.1.done HS.out h0
      have HO : Hid (wr.ownsRow B 9 1 u5 xs.length (xs.map Value.string)) := HH.out.2.2.1
      have HL : Hid (Below B w wr) := HH.out.2.2.2
      have CS : Hid (Calls _ _ _ _ _) := sortC B u5 xs wr HO.out (by omega)
      clear HH hfm
      go_wp2_with (go_at_call 90; refine CS.out.mono ?_; rintro _ w1 ⟨rfl, ⟨ts, h1, h2⟩, h3⟩; have H1 : Hid (ts.map bs = ((xs.map bs).mergeSort fun x y => decide (x ≤ y))) := h1; have H2 : Hid (World.ownsRow _ _ _ _ _ _ _) := h2; have H3 : Hid (World.grownBy _ _ _) := h3; clear h1 h2 h3)
      go_ret
      have he : ts = keysL pre r := map_bs_inj (H1.out.trans HD.out)
      subst he
      have hn : xs.length = (keysL pre r).length := by
        have := congrArg List.length H1.out
        simpa using this.symm
      refine ⟨_, rfl, ?_, ?_⟩
      · rw [← hn]; exact H2.out
      · exact below_grownBy HL.out H3.out (by rw [HB0.out]; exact Nat.le_refl _) (fun j hj => (HO.out.lt _ hj).1)
    · intro x d w1 c1 hlx hgx hrg1 hlt hgr hsz hen
      have HC : Hid (Coll pre r (fun z => left z && !z.sameKey (.string (bs x))) (if Lib.hasPrefix (bs x) (bs pre) then xs ++ [x] else xs)) := HH.out.1.step hlx hgx
      have HB1 : Hid (Below B w w1) := below_grownBy HH.out.2.2.2 hgr (by rw [HB0.out]; exact Nat.le_refl _) (by intro j hj; injection hj with hj; omega)
      have HR1 : Hid (w1.ranges Tryz.prog 9 recE b B r.length (dat r) (fun z => left z && !z.sameKey (.string (bs x))) c1) := hrg1
      have HM : Hid (c1 < c ∧ wr.rangeLeft b B = c) := ⟨hlt, HH.out.2.1.left_eq⟩
      have HO1 : Hid (w1.ownsRow B 9 1 u5 xs.length (xs.map Value.string)) := HH.out.2.2.1.kept hgr (.inr fun e => row_ne_iter HH.out.2.2.1 HH.out.2.1 e.symm)
      have hsz1 : B ≤ w1.heap.size := by have := HB1.out.size; rw [HB0.out]; exact this
      have CX : Hid (∀ w : World, Calls _ _ _ _ _) := fun w => CP.out w x
      clear hrg1 hlx hgx HH hgr hfm hsz
      cases hp : Lib.hasPrefix (bs x) (bs pre) with
      | false =>
        rw [hp] at CX
        have HC' : Hid (Coll pre r (fun z => left z && !z.sameKey (.string (bs x))) xs) := by have := HC.out; rw [hp] at this; exact this
        clear HC hp
        go_wp2_with (first | (go_at_call 89; refine (CX.out _).mono ?_; rintro _ w2 ⟨rfl, hw2⟩; rw [hw2]; clear hw2) | go_in)
        go_roundw
        case rel => exact ⟨_, c1, xs, by omega, HC'.out, HR1.out, HO1.out, HB1.out⟩
        case measure => rw [HM.out.2, HR1.out.left_eq]; exact HM.out.1
      | true =>
        rw [hp] at CX
        have HC' : Hid (Coll pre r (fun z => left z && !z.sameKey (.string (bs x))) (xs ++ [x])) := by have := HC.out; rw [hp] at this; exact this
        have HR2 : Hid ((w1.alloc (.cells #[.string x] 9)).ranges Tryz.prog 9 recE b B r.length (dat r) (fun z => left z && !z.sameKey (.string (bs x))) c1) := HR1.out.alloc _
        have HO2 : Hid ((w1.alloc (.cells #[.string x] 9)).ownsRow B 9 1 u5 xs.length (xs.map Value.string)) := HO1.out.alloc _
        have HB2 : Hid (Below B w (w1.alloc (.cells #[.string x] 9))) := HB1.out.alloc hsz1 _
        clear HC hp
        go_wp2_with (first | (go_at_call 89; refine (CX.out _).mono ?_; rintro _ w2 ⟨rfl, hw2⟩; rw [hw2]; clear hw2) | (at_builtin; (refine wpList_append_own _ rfl _ _ 82 rfl B 9 i9 (.string ByteArray.empty) 1 16 Tryz.underlying82 HIN.out.1 HIN.out.2.1 HIN.out.2.2.1 HIN.out.2.2.2 rfl (by decide) _ xs.length _ rfl HO2.out ⟨w1.heap.size, 0, none⟩ 1 1 [.string x] rfl rfl (new_text _ _ _) (one_text _) (by unfold maxLen; omega) (by omega) (by simp; omega) ?_; intro v' w3 ho hg hnn; have HO3 : Hid (World.ownsRow _ _ _ _ _ _ _) := ho; have HG3 : Hid (World.grownBy _ _ _) := hg; clear ho hg hnn)) | go_in)
        have HR3 : Hid (w3.ranges Tryz.prog 9 recE b B r.length (dat r) (fun z => left z && !z.sameKey (.string (bs x))) c1) := HR2.out.kept HG3.out (row_ne_low HO2.out hbB) (row_ne_iter HO2.out HR2.out)
        have HB3 : Hid (Below B w w3) := below_grownBy HB2.out HG3.out (by rw [HB0.out]; exact Nat.le_refl _) (fun j hj => (HO2.out.lt _ hj).1)
        go_roundw
        case rel => exact ⟨_, c1, xs ++ [x], by simp; omega, HC'.out, HR3.out, by rw [List.length_append, List.map_append]; exact HO3.out, HB3.out⟩
        case measure => rw [HM.out.2, HR3.out.left_eq]; exact HM.out.1
end Go.Proofs.YtmindflfjocjlaaGreat.yd
