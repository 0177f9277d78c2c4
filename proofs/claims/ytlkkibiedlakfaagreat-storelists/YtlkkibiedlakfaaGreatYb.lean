import Derived.Test.YtlkkibiedlakfaaGreatYa
import Derived.Test.YtlkkibiedlakfaaGreatKp
import Derived.Test.YtlkkibiedlakfaaGreatKa
import Derived.Maps.OwnOps
import Derived.StringKeys
import Derived.Deep.RegionHeld3
import Derived.Deep.DeepCutAuto
import Derived.BigQuiet
namespace Go.Proofs.YtlkkibiedlakfaaGreat.yb
open Go.RowKit Go.PlainAid Go.Maps
open Go.Proofs.YtlkkibiedlakfaaGreat.ca Go.Proofs.YtlkkibiedlakfaaGreat.cb Go.Proofs.YtlkkibiedlakfaaGreat.cp Go.Proofs.YtlkkibiedlakfaaGreat.kp Go.Proofs.YtlkkibiedlakfaaGreat.ka Go.Proofs.YtlkkibiedlakfaaGreat.ya
set_option linter.unusedVariables false
set_option linter.unusedSimpArgs false

def recE (v : Value) : Option (DataW Unit × List MemPlace) :=
  match v with
  | .agg cs => (match cs.toList with
    | [.string s] => if s.size ≤ maxLen then some (.lit (.string (bs s)), []) else none
    | _ => none)
  | _ => none
theorem recE_mk {s : ByteArray} (h : s.size ≤ maxLen) : recE (.agg #[.string s]) = some (.lit (.string (bs s)), []) := by simp [recE, h]
theorem recE_inv {v : Value} {y : DataW Unit × List MemPlace} (h : recE v = some y) : ∃ s, v = .agg #[.string s] ∧ y = (.lit (.string (bs s)), []) ∧ s.size ≤ maxLen := by
  unfold recE at h
  split at h
  · rename_i cs
    split at h
    · rename_i s hs
      split at h
      · rename_i hl
        refine ⟨s, ?_, (Option.some.inj h).symm, hl⟩
        congr
        rw [← Array.toList_inj, hs]
      · cases h
    · cases h
  · cases h
theorem law : Keyed Tryz.prog 9 := string_keyed Tryz.underlying9
theorem zeroR (w : World) : (zeroValue 117).run Tryz.prog w = .ok (.agg #[.string ByteArray.empty]) w := by kernel_rfl
theorem key_is {s : ByteArray} (h : s.size ≤ maxLen) : keyOf Tryz.prog 9 (.string s) = some (.string (bs s)) := WideMaps.keyOf_string_mk Tryz.underlying9 h
def Mp (b : Nat) (r : List Rec) (w : World) : Prop := w.ownsMap Tryz.prog 9 recE b r.length (dat r)
theorem own_exact {w : World} {b n : Nat} {r : List Rec} (h : w.ownsMap Tryz.prog 9 recE b n (dat r)) : Mp b r w := by
  obtain ⟨es, clock, hb, F, hs, hD⟩ := h
  refine ⟨es, clock, hb, F, ?_, hD⟩
  have h1 := congrArg Maps.size hD
  rw [dat_size] at h1
  rw [h1]
  simp [Maps.size, length_sorted]
theorem Mp.lt {b : Nat} {r : List Rec} {w : World} (h : Mp b r w) : b < w.heap.size := World.ownsMap.lt h
theorem Mp.keep {b : Nat} {r : List Rec} {w w' : World} {A : Nat → Prop} (h : Mp b r w) (k : Kp A w w') (hn : ¬ A b) : Mp b r w' := by
  have hl := h.lt
  obtain ⟨es, clock, hb, F, hs, hD⟩ := h
  exact ⟨es, clock, (k.block b hl hn).trans hb, F, hs, hD⟩
theorem Mp.ne {b g : Nat} {r : List Rec} {w : World} {cur : Array Value} {T : Nat} {f : Nat × Nat} (h : Mp b r w) (hg : w.heap[g]? = some (.cells cur T f)) : b ≠ g := by
  rintro rfl
  obtain ⟨es, clock, hb, _⟩ := h
  rw [hb] at hg
  cases hg
theorem kp_turn {w w' : World} {b : Nat} (h : w.mapTurned w' b) : Kp (fun k => k = b) w w' := by
  have g := h.grown
  exact ⟨g.os, g.tape, g.output, g.size, fun k hk hn => g.block k hk (fun e => hn (Option.some.inj e))⟩
theorem Mp.srt {b : Nat} {r : List Rec} {w : World} (h : Mp b r w) : Srt r := by
  obtain ⟨es, clock, hb, F, hs, hD⟩ := h
  have hr := sorted_sorted law.one _ (fit_keys F) (fit_apart law F)
  unfold dat at hD
  rw [DataW.map.injEq] at hD
  rw [← hD] at hr
  unfold Srt
  rw [List.pairwise_map] at hr
  exact hr
section
variable (w : World) {ops : Array Oper} {rest : List Oper} {o : Oper} {a : Act} {Q : Exit → Act → World → Prop}
theorem wpList_look (hg : o.guard = none) (m x : Operand) (hop : o.op = Op.lookup 59 m x true) (b : Nat) (r : List Rec) (hm : a.eval m = .map (some b)) (hown : Mp b r w) (k : ByteArray) (hx : a.eval x = .string k) (hk : k.size ≤ maxLen)
    (hK : wpList Tryz.prog ops Q rest (a.put o.dst (.tuple #[.agg #[.string ((rget k r).getD ByteArray.empty)], .bool (rget k r).isSome])) w) : wpList Tryz.prog ops Q (o :: rest) a w :=
  wpList_lookup_own_ok w hg m x 59 hop 9 117 law Tryz.underlying59 recE (zeroR _) (.lit (.string (bs ByteArray.empty))) [] (recE_mk (by decide)) b r.length (dat r) hm hown (.string k) (.string (bs k)) hx (key_is hk) (fun v ps hv => by
    obtain ⟨s, rfl, hy, _⟩ := recE_inv hv
    have h1 := congrArg Prod.fst hy
    simp only at h1
    rw [dat_at] at h1
    have h2 : s = (rget k r).getD ByteArray.empty := by
      cases hg : rget k r with
      | none => rw [hg] at h1; simp only at h1; injection h1 with h1; injection h1 with h1; exact (bs_inj h1).symm
      | some d => rw [hg] at h1; simp only at h1; injection h1 with h1; injection h1 with h1; exact (bs_inj h1).symm
    rw [dat_has, h2]
    exact hK)
theorem wpList_set (hg : o.guard = none) (m x v : Operand) (hop : o.op = Op.mapUpdate 59 m x v) (b : Nat) (r : List Rec) (hm : a.eval m = .map (some b)) (hown : Mp b r w) (hn : r.length < maxLen) (k d : ByteArray) (hx : a.eval x = .string k) (hv : a.eval v = .agg #[.string d]) (hk : k.size ≤ maxLen) (hd : d.size ≤ maxLen)
    (hK : ∀ w', Mp b (put k d r) w' → Kp (fun k => k = b) w w' → wpList Tryz.prog ops Q rest (a.put o.dst undef) w') : wpList Tryz.prog ops Q (o :: rest) a w :=
  wpList_mapUpdate_in w hg m x v 59 hop 9 117 law Tryz.underlying59 recE b r.length (dat r) hm hown hn (.string k) (.agg #[.string d]) (.string (bs k)) hx hv (key_is hk) (.lit (.string (bs d))) [] (recE_mk hd) (fun w' h1 h2 => by
    rw [dat_put] at h1
    exact hK w' (own_exact h1) (kp_turn h2))
theorem wpList_cut (hg : o.guard = none) (m x : Operand) (hop : o.op = Op.call { callee := Callee.builtin Builtin.delete, args := #[m, x], argTypes := #[59, 9] }) (b : Nat) (r : List Rec) (hm : a.eval m = .map (some b)) (hown : Mp b r w) (k : ByteArray) (hx : a.eval x = .string k) (hk : k.size ≤ maxLen)
    (hK : ∀ w', Mp b (del k r) w' → Kp (fun k => k = b) w w' → wpList Tryz.prog ops Q rest (a.put o.dst (.tuple #[])) w') : wpList Tryz.prog ops Q (o :: rest) a w :=
  wpList_delete_own w hg m x 59 9 hop 117 law Tryz.underlying59 recE b r.length (dat r) hm hown (.string k) (.string (bs k)) hx (key_is hk) (fun w' h1 h2 => by
    rw [dat_del] at h1
    exact hK w' (own_exact h1) (kp_turn h2))
end

theorem putM (b : Nat) (r : List Rec) (k d : ByteArray) (w : World) (h : Mp b r w) (hk : k.size ≤ maxLen) (hd : d.size ≤ maxLen) (hl : r.length < maxLen) :
    Calls Tryz.prog 93 #[.map (some b), .string k, .string d] w fun e w' => e = .returned (.tuple #[]) ∧ Mp b (put k d r) w' ∧ Kp (fun k => k = b) w w' := by
  have H : Hid (Mp b r w) := h
  clear h
  go_enter Tryz.func93, Tryz.ntmps93
  go_wp2_with (first | (at_mapUpdate; refine wpList_set _ rfl _ _ _ rfl b r rfl H.out hl k d rfl rfl hk hd ?_; intro w1 h1 h2) | go_in)
  go_end0
  exact ⟨rfl, h1, h2⟩
theorem cutM (b : Nat) (r : List Rec) (k d : ByteArray) (w : World) (h : Mp b r w) (hk : k.size ≤ maxLen) :
    Calls Tryz.prog 106 #[.map (some b), .string k, .string d] w fun e w' => e = .returned (.tuple #[]) ∧ Mp b (del k r) w' ∧ Kp (fun k => k = b) w w' := by
  have H : Hid (Mp b r w) := h
  clear h
  go_enter Tryz.func106, Tryz.ntmps106
  go_wp2_with (first | (at_delete; refine wpList_cut _ rfl _ _ rfl b r rfl H.out k rfl hk ?_; intro w1 h1 h2) | go_in)
  go_end0
  exact ⟨rfl, h1, h2⟩
theorem countC (k d : ByteArray) (w : World) (hk : k.size ≤ 140737488355328) (hd : d.size ≤ 140737488355328) :
    Calls Tryz.prog 91 #[.string k, .string d] w fun e w' => e = .returned (.int .i64 (cnt (k, d) : Nat)) ∧ w' = w := by
  go_enter Tryz.func91, Tryz.ntmps91
  go_wp2
  go_ret
  exact ⟨by simp only [cnt]; congr 2, rfl⟩
theorem keyGoesC (k : ByteArray) (w : World) : Calls Tryz.prog 122 #[.string k] w fun e w' => e = .returned (.bool (decide (1 ≤ k.size ∧ k.size ≤ 64))) ∧ w' = w := by
  by_cases h1 : 1 ≤ k.size
  · have h1' : decide ((1 : Int) ≤ k.size) = true := by simp; omega
    by_cases h2 : k.size ≤ 64
    · have h2' : decide ((k.size : Int) ≤ 64) = true := by simp; omega
      go_enter Tryz.func122, Tryz.ntmps122
      go_wp2
      go_ret
      exact ⟨by simp [h1, h2], rfl⟩
    · have h2' : decide ((k.size : Int) ≤ 64) = false := by simp; omega
      go_enter Tryz.func122, Tryz.ntmps122
      go_wp2
      go_ret
      exact ⟨by simp [h1, h2], rfl⟩
  · have h1' : decide ((1 : Int) ≤ k.size) = false := by simp; omega
    go_enter Tryz.func122, Tryz.ntmps122
    go_wp2
    go_ret
    exact ⟨by simp [h1], rfl⟩
theorem dataGoC (d : ByteArray) (w : World) : Calls Tryz.prog 89 #[.string d] w fun e w' => e = .returned (.bool (decide (d.size ≤ 1048576))) ∧ w' = w := by
  go_enter Tryz.func89, Tryz.ntmps89
  go_wp2
  go_ret
  exact ⟨by congr 3; simp; omega, rfl⟩
theorem capC (c : Int) (w : World) : Calls Tryz.prog 23 #[.int .i64 c] w fun e w' => e = .returned (.bool (decide (0 ≤ c ∧ c ≤ 1073741824))) ∧ w' = w := by
  by_cases h1 : 0 ≤ c
  · have h1' : decide ((0 : Int) ≤ c) = true := by simp; omega
    by_cases h2 : c ≤ 1073741824
    · have h2' : decide (c ≤ 1073741824) = true := by simp; omega
      go_enter Tryz.func23, Tryz.ntmps23
      go_wp2
      go_ret
      exact ⟨by simp [h1, h2], rfl⟩
    · have h2' : decide (c ≤ 1073741824) = false := by simp; omega
      go_enter Tryz.func23, Tryz.ntmps23
      go_wp2
      go_ret
      exact ⟨by simp [h1, h2], rfl⟩
  · have h1' : decide ((0 : Int) ≤ c) = false := by simp; omega
    go_enter Tryz.func23, Tryz.ntmps23
    go_wp2
    go_ret
    exact ⟨by simp [h1], rfl⟩
end Go.Proofs.YtlkkibiedlakfaaGreat.yb
