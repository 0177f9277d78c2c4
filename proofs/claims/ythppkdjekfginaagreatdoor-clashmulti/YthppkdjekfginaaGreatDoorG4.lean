import Derived.Test.YthppkdjekfginaaGreatDoorG1
import Derived.Deep.MidRow
import Derived.Shelf.Strings.OnBuilder
import Derived.Test.YthppkdjekfginaaGreatDoorProg
import Derived.Test.YthppkdjekfginaaGreatDoorG2
import Derived.Room.Shelf.Join48
import Derived.Laws.BitsAllLaws
import Derived.Deep.DeepCutAuto
import Derived.BigQuiet
import Derived.Deep.AppendLies
namespace Go.Proofs.YthppkdjekfginaaGreatDoor.ka
open Go.RowKit Go.PlainAid
open Go.Proofs.YthppkdjekfginaaGreatDoor.ca Go.Proofs.YthppkdjekfginaaGreatDoor.cp
set_option linter.unusedVariables false

-- a list of texts, wherever it lies
def ReadsT (w : World) (v : Value) (xs : List ByteArray) : Prop :=
  ∃ a cap, v = .slice a xs.length cap ∧ xs.length ≤ cap ∧ (xs.length = 0 ∨ ∃ b off, a = some ⟨b, off, none⟩ ∧ ∀ i, i < xs.length → w.cell? ⟨b, off + i, none⟩ = some (.string (xs.getD i ByteArray.empty)))
theorem ReadsT.later {w w' : World} {v : Value} {xs : List ByteArray} (h : ReadsT w v xs) (hb : Below w.heap.size w w') : ReadsT w' v xs := by
  obtain ⟨a, cap, rfl, hc, h0 | ⟨b, off, rfl, hh⟩⟩ := h
  · exact ⟨a, cap, rfl, hc, .inl h0⟩
  · refine ⟨_, cap, rfl, hc, .inr ⟨b, off, rfl, fun i hi => ?_⟩⟩
    have := hh i hi
    exact (hb.cell (p := ⟨b, off + i, none⟩) (World.block_lt_of_cell? _ _ this)).trans this
theorem ReadsT.front {w : World} {b off n cap k : Nat} {xs : List ByteArray} (h : ReadsT w (.slice (some ⟨b, off, none⟩) n cap) xs) (hk : k ≤ xs.length) : ReadsT w (.slice (some ⟨b, off, none⟩) k cap) (xs.take k) := by
  obtain ⟨a, cap', e, hc, hh⟩ := h
  injection e with e1 e2 e3
  subst e1 e3
  have hl : (xs.take k).length = k := by rw [List.length_take]; omega
  refine ⟨_, cap, by rw [hl], by omega, ?_⟩
  rcases hh with h0 | ⟨b', off', e4, hh⟩
  · left; omega
  · injection e4 with e4
    injection e4 with e5 e6
    subst e5 e6
    refine .inr ⟨b, off, rfl, fun i hi => ?_⟩
    rw [hl] at hi
    rw [hh i (by omega), List.getD_eq_getElem?_getD, List.getD_eq_getElem?_getD, List.getElem?_take, if_pos hi]
theorem ReadsT.back {w : World} {b off n cap k : Nat} {xs : List ByteArray} (h : ReadsT w (.slice (some ⟨b, off, none⟩) n cap) xs) (hk : k ≤ xs.length) : ReadsT w (.slice (some ⟨b, off + k, none⟩) (n - k) (cap - k)) (xs.drop k) := by
  obtain ⟨a, cap', e, hc, hh⟩ := h
  injection e with e1 e2 e3
  subst e1 e2 e3
  have hl : (xs.drop k).length = xs.length - k := List.length_drop
  refine ⟨_, cap - k, by rw [hl], by omega, ?_⟩
  rcases hh with h0 | ⟨b', off', e4, hh⟩
  · left; omega
  · injection e4 with e4
    injection e4 with e5 e6
    subst e5 e6
    refine .inr ⟨b, off + k, rfl, fun i hi => ?_⟩
    rw [hl] at hi
    rw [Nat.add_assoc, hh (k + i) (by omega), List.getD_eq_getElem?_getD, List.getD_eq_getElem?_getD, List.getElem?_drop]
theorem ReadsT.mid {w : World} {b off n cap f k : Nat} {xs : List ByteArray} (h : ReadsT w (.slice (some ⟨b, off, none⟩) n cap) xs) (hk : f + k ≤ xs.length) : ReadsT w (.slice (some ⟨b, off + f, none⟩) k (cap - f)) ((xs.drop f).take k) := by
  have h1 := h.back (k := f) (by omega)
  exact ReadsT.front (n := n - f) h1 (by rw [List.length_drop]; omega)
theorem own_readsT {w : World} {B n : Nat} {v : Value} {xs : List ByteArray} (h : w.ownsRow B 9 1 v n (xs.map Value.string)) : ReadsT w v xs := by
  have hn : xs.length = n := by have := h.1; simpa using this
  subst hn
  rcases h.2 with ⟨rfl, h0⟩ | ⟨g, cap, cur, rfl, _, hg, hc, _⟩
  · exact ⟨none, 0, by rw [h0], by omega, .inl h0⟩
  · refine ⟨_, cap, rfl, hc, .inr ⟨g, 0, rfl, fun i hi => ?_⟩⟩
    rw [Nat.zero_add, h.cellAt i (by omega), List.getElem?_map, List.getElem?_eq_getElem hi, List.getD_eq_getElem?_getD, List.getElem?_eq_getElem hi]
    rfl
theorem hi9 : (Tryz.prog.info? 9).map (fun i => (i.zero, i.size, i.bytes)) = some (some (.string ByteArray.empty), 1, 16) := by kernel_rfl
theorem info_parts {t : TypeId} {z : Value} {n b : Nat} (h : (Tryz.prog.info? t).map (fun i => (i.zero, i.size, i.bytes)) = some (some z, n, b)) : ∃ i, Tryz.prog.info? t = some i ∧ i.zero = some z ∧ i.size = n ∧ i.bytes = b := by
  obtain ⟨i, hi, he⟩ := Option.map_eq_some_iff.1 h
  injection he with e1 e2
  injection e2 with e2 e3
  exact ⟨i, hi, e1, e2, e3⟩
theorem own_formS {w : World} {B e size n : Nat} {v : Value} {xs : List Value} (h : w.ownsRow B e size v n xs) : ∃ a c, v = .slice a n c := by
  rcases h.2 with ⟨rfl, rfl⟩ | ⟨g, cap, cur, rfl, _⟩
  · exact ⟨_, _, rfl⟩
  · exact ⟨_, _, rfl⟩
theorem new_text (W : World) (u : Value) (t : TypeId) : ∀ (j : Nat) (x : Value), [u][j]? = some x → (W.alloc (.cells #[u] t)).cell? (Addr.add ⟨W.heap.size, 0, none⟩ j) = some x := by
  intro j x hx
  rw [show (Addr.add ⟨W.heap.size, 0, none⟩ j) = ⟨W.heap.size, j, none⟩ by cases j <;> simp [Addr.add], World.cell?_alloc_at _ _ _ _ rfl]
  simpa using hx
theorem one_text (x : ByteArray) : ∀ u ∈ [Value.string x], u.oneCell' = true := by
  intro u hu
  simp only [List.mem_cons, List.not_mem_nil, or_false] at hu
  subst hu
  rfl
theorem own_first {w : World} {B g n cap : Nat} {ys : List ByteArray} {z : Value} (h : w.ownsRow B 9 1 (.slice (some ⟨g, 0, none⟩) (n + 1) cap) (n + 1) (ys.map Value.string ++ [z])) (hn : ys.length = n) : ReadsT w (.slice (some ⟨g, 0, none⟩) n cap) ys := by
  have hc : n + 1 ≤ cap := by
    rcases h.2 with ⟨e, _⟩ | ⟨g', cap', cur, e, _, _, hc, _⟩
    · cases e
    · injection e with _ _ e3; omega
  refine ⟨_, cap, by rw [hn], by omega, .inr ⟨g, 0, rfl, fun i hi => ?_⟩⟩
  rw [Nat.zero_add, h.cellAt i (by omega), List.getElem?_append_left (by rw [List.length_map]; exact hi), List.getElem?_map, List.getElem?_eq_getElem hi, List.getD_eq_getElem?_getD, List.getElem?_eq_getElem hi]
  rfl
theorem own_behind {w : World} {B g n cap : Nat} {ys : List ByteArray} {z : Value} (h : w.ownsRow B 9 1 (.slice (some ⟨g, 0, none⟩) (n + 1) cap) (n + 1) (ys.map Value.string ++ [z])) (hn : ys.length = n) : w.cell? ⟨g, n, none⟩ = some z := by
  rw [h.cellAt n (by omega), List.getElem?_append_right (by rw [List.length_map]; omega), List.length_map, hn, Nat.sub_self]
  rfl
theorem reads_news {w : World} {ad : Addr} {n cap : Nat} {xs : List ByteArray} (h : ReadsT w (.slice (some ad) n cap) xs) : ∀ (j : Nat) (u : Value), (xs.map Value.string)[j]? = some u → w.cell? (ad.add j) = some u := by
  intro j u hu
  have hj : j < xs.length := by have := (List.getElem?_eq_some_iff.1 hu).1; simpa using this
  obtain ⟨a', cap', e, _, h0 | ⟨b, off, e4, hc⟩⟩ := h
  · omega
  · injection e with e1 e2 e3
    rw [← e1] at e4
    obtain rfl := Option.some.inj e4
    rw [Addr.add_mid, hc j hj, ← hu, List.getElem?_map, List.getElem?_eq_getElem hj, List.getD_eq_getElem?_getD, List.getElem?_eq_getElem hj]
    rfl
end Go.Proofs.YthppkdjekfginaaGreatDoor.ka

namespace Go.Proofs.YthppkdjekfginaaGreatDoor.sj
open Go.Shelf
set_option linter.unusedVariables false
def lays156_ren : Go.Shelf.Ren := ⟨fun | 156 => 119 | 165 => 131 | 166 => 132 | 169 => 133 | 240 => 142 | 241 => 143 | 276 => 151 | 277 => 152 | n => n, fun | 31 => 22 | 9 => 9 | 3 => 3 | 4 => 4 | 0 => 0 | 20 => 20 | 72 => 158 | 76 => 162 | 70 => 156 | 37 => 36 | 75 => 161 | 127 => 174 | 164 => 185 | 5 => 5 | 80 => 78 | n => n, fun | n => n⟩
theorem lays156 : Go.Proofs.Lays.n156 Tryz.prog lays156_ren := {
  mixed := by kernel_rfl
  f156 := Tryz.func119.trans (congrArg some (by kernel_rfl))
  f165 := Tryz.func131.trans (congrArg some (by kernel_rfl))
  f166 := Tryz.func132.trans (congrArg some (by kernel_rfl))
  f169 := Tryz.func133.trans (congrArg some (by kernel_rfl))
  f240 := Tryz.func142.trans (congrArg some (by kernel_rfl))
  f241 := Tryz.func143.trans (congrArg some (by kernel_rfl))
  f276 := Tryz.func151.trans (congrArg some (by kernel_rfl))
  f277 := Tryz.func152.trans (congrArg some (by kernel_rfl))
  t0 := Tryz.underlying0
  a0 := Tryz.isAgg0
  z0 := Tryz.sizeOf0
  v0 := Tryz.zeroValue0
  t3 := Tryz.underlying3
  a3 := Tryz.isAgg3
  z3 := Tryz.sizeOf3
  v3 := Tryz.zeroValue3
  t4 := Tryz.underlying4
  a4 := Tryz.isAgg4
  z4 := Tryz.sizeOf4
  v4 := Tryz.zeroValue4
  t9 := Tryz.underlying9
  a9 := Tryz.isAgg9
  z9 := Tryz.sizeOf9
  v9 := Tryz.zeroValue9
  t20 := Tryz.underlying20
  a20 := Tryz.isAgg20
  z20 := Tryz.sizeOf20
  v20 := Tryz.zeroValue20
  t31 := Tryz.underlying22
  a31 := Tryz.isAgg22
  z31 := Tryz.sizeOf22
  v31 := Tryz.zeroValue22
  t37 := Tryz.underlying36
  a37 := Tryz.isAgg36
  z37 := Tryz.sizeOf36
  v37 := Tryz.zeroValue36
  t70 := Tryz.underlying156
  a70 := Tryz.isAgg156
  z70 := Tryz.sizeOf156
  v70 := Tryz.zeroValue156
  t72 := Tryz.underlying158
  a72 := Tryz.isAgg158
  z72 := Tryz.sizeOf158
  v72 := Tryz.zeroValue158
  t75 := Tryz.underlying161
  a75 := Tryz.isAgg161
  z75 := Tryz.sizeOf161
  v75 := Tryz.zeroValue161
  t76 := Tryz.underlying162
  a76 := Tryz.isAgg162
  z76 := Tryz.sizeOf162
  v76 := Tryz.zeroValue162
  t127 := Tryz.underlying174
  a127 := Tryz.isAgg174
  z127 := Tryz.sizeOf174
  v127 := Tryz.zeroValue174
  t164 := Tryz.underlying185
  a164 := Tryz.isAgg185
  z164 := Tryz.sizeOf185
  v164 := Tryz.zeroValue185 }
theorem extra156 : Builder.Extra Tryz.prog lays156_ren := {
  sizeBuilder := by kernel_rfl
  liesBuilder := by kernel_rfl
  t5 := Tryz.underlying5
  a5 := Tryz.isAgg5
  z5 := Tryz.sizeOf5
  v5 := Tryz.zeroValue5
  infoByte := by kernel_rfl
  cellsByte := by kernel_rfl
  sizeByte := by kernel_rfl
  neB5 := by decide }
end Go.Proofs.YthppkdjekfginaaGreatDoor.sj

namespace Go.Proofs.YthppkdjekfginaaGreatDoor.kb
open Go.RowKit Go.PlainAid
open Go.Proofs.YthppkdjekfginaaGreatDoor.pl Go.Proofs.YthppkdjekfginaaGreatDoor.pi Go.Proofs.YthppkdjekfginaaGreatDoor.pj Go.Proofs.YthppkdjekfginaaGreatDoor.rf Go.Proofs.YthppkdjekfginaaGreatDoor.ca Go.Proofs.YthppkdjekfginaaGreatDoor.cp Go.Proofs.YthppkdjekfginaaGreatDoor.ka
set_option linter.unusedVariables false

theorem cut_of (x s : ByteArray) (m : Int) (w : World) (hx : x.size = 32) (hsum : Calls Tryz.prog 130 #[.string s] w fun e w' => e = .returned (.string x) ∧ Below w.heap.size w w') :
    Calls Tryz.prog 118 #[.string s, .int .i64 m] w fun e w' => e = .returned (.string (x.extract 0 (wid m))) ∧ Below w.heap.size w w' := by
  have HSUM : Hid (Calls _ _ _ _ _) := hsum
  clear hsum
  by_cases h1 : m < 1
  · have d1 : decide (m < 1) = true := decide_eq_true h1
    rw [show wid m = 32 by unfold wid; rw [if_pos (.inl h1)]]
    clear h1
    go_enter Tryz.func118, Tryz.ntmps118
    go_wp2_with fail
    refine HSUM.out.mono ?_
    rintro e w1 ⟨rfl, hb1⟩
    have HB1 : Hid (Below _ _ _) := hb1
    clear hb1
    go_wp2
    go_ret
    exact ⟨rfl, HB1.out⟩
  · have d1 : decide (m < 1) = false := decide_eq_false h1
    by_cases h2 : 32 < m
    · have d2 : decide (32 < m) = true := decide_eq_true h2
      rw [show wid m = 32 by unfold wid; rw [if_pos (.inr h2)]]
      clear h1 h2
      go_enter Tryz.func118, Tryz.ntmps118
      go_wp2_with fail
      refine HSUM.out.mono ?_
      rintro e w1 ⟨rfl, hb1⟩
      have HB1 : Hid (Below _ _ _) := hb1
      clear hb1
      go_wp2
      go_ret
      exact ⟨rfl, HB1.out⟩
    · have d2 : decide (32 < m) = false := decide_eq_false h2
      obtain ⟨k, rfl⟩ := Int.eq_ofNat_of_zero_le (show 0 ≤ m by omega)
      have hky : k ≤ 32 := by omega
      have hkz : (k : Int) ≤ 32 := by omega
      rw [show wid (k : Int) = k by unfold wid; rw [if_neg (fun h => h.elim h1 h2)]; omega]
      clear h1 h2
      go_enter Tryz.func118, Tryz.ntmps118
      go_wp2_with fail
      refine HSUM.out.mono ?_
      rintro e w1 ⟨rfl, hb1⟩
      have HB1 : Hid (Below _ _ _) := hb1
      clear hb1
      go_wp2
      go_ret
      exact ⟨rfl, HB1.out⟩
theorem width (m : Int) (w : World) : Calls Tryz.prog 122 #[.int .i64 m] w fun e w' => e = .returned (.int .i64 (wid m)) ∧ w' = w := by
  by_cases h1 : m < 1
  · have d1 : decide (m < 1) = true := decide_eq_true h1
    rw [show wid m = 32 by unfold wid; rw [if_pos (.inl h1)]]
    clear h1
    go_enter Tryz.func122, Tryz.ntmps122
    go_wp2
    go_ret
    exact ⟨rfl, rfl⟩
  · have d1 : decide (m < 1) = false := decide_eq_false h1
    by_cases h2 : 32 < m
    · have d2 : decide (32 < m) = true := decide_eq_true h2
      rw [show wid m = 32 by unfold wid; rw [if_pos (.inr h2)]]
      clear h1 h2
      go_enter Tryz.func122, Tryz.ntmps122
      go_wp2
      go_ret
      exact ⟨rfl, rfl⟩
    · have d2 : decide (32 < m) = false := decide_eq_false h2
      obtain ⟨k, rfl⟩ := Int.eq_ofNat_of_zero_le (show 0 ≤ m by omega)
      rw [show wid (k : Int) = k by unfold wid; rw [if_neg (fun h => h.elim h1 h2)]; omega]
      clear h1 h2
      go_enter Tryz.func122, Tryz.ntmps122
      go_wp2
      go_ret
      exact ⟨rfl, rfl⟩
theorem rcut_of (x s : ByteArray) (m : Int) (w : World) (hx : x.size = 32) (hsum : Calls Tryz.prog 121 #[.string s] w fun e w' => e = .returned (.string x) ∧ Below w.heap.size w w') :
    Calls Tryz.prog 92 #[.string s, .int .i64 m] w fun e w' => e = .returned (.string (x.extract 0 (wid m))) ∧ Below w.heap.size w w' := by
  have HSUM : Hid (Calls _ _ _ _ _) := hsum
  have hw := wid_le m
  have W : Hid (∀ w', Calls _ _ _ _ _) := width m
  clear hsum
  generalize wid m = k at *
  have hk : (k : Int) ≤ 32 := by omega
  go_enter Tryz.func92, Tryz.ntmps92
  go_wp2_with fail
  refine HSUM.out.mono ?_
  rintro e w1 ⟨rfl, hb1⟩
  have HB1 : Hid (Below _ _ _) := hb1
  clear hb1
  go_wp2_with fail
  refine (W.out _).mono ?_
  rintro e w2 ⟨rfl, rfl⟩
  go_wp2
  go_ret
  exact ⟨rfl, HB1.out⟩
theorem rCut (s : ByteArray) (m : Int) (w : World) (hs : s.size ≤ 140737488352256) (T : Tab4 w) :
    Calls Tryz.prog 92 #[.string s, .int .i64 m] w fun e w' => e = .returned (.string ((sha s).extract 0 (wid m))) ∧ Below w.heap.size w w' :=
  rcut_of (sha s) s m w (sha_size s) (RSum s w hs T)
def cutS (s : ByteArray) (m : Int) : ByteArray := (sha s).extract 0 (wid m)
def EF (m : Int) : ByteArray := cutS ByteArray.empty m
def LF (m : Int) (d : ByteArray) : ByteArray := cutS ((⟨#[0]⟩ : ByteArray) ++ d) m
def NF (m : Int) (l r : ByteArray) : ByteArray := cutS ((⟨#[1]⟩ : ByteArray) ++ l ++ r) m
theorem cutS_size (s : ByteArray) (m : Int) : (cutS s m).size = wid m := by
  unfold cutS
  rw [ByteArray.size_extract, sha_size]
  have := wid_le m
  omega
theorem sz0 : (⟨#[0]⟩ : ByteArray).size = 1 := rfl
theorem sz1 : (⟨#[1]⟩ : ByteArray).size = 1 := rfl
theorem rEmpty (m : Int) (w : World) (T : Tab4 w) : Calls Tryz.prog 56 #[.int .i64 m] w fun e w' => e = .returned (.string (EF m)) ∧ Below w.heap.size w w' := by
  have C : Hid (Calls _ _ _ _ _) := rCut ByteArray.empty m w (by decide) T
  have HE : Hid ((sha ByteArray.empty).extract 0 (wid m) = EF m) := rfl
  rw [HE.out] at C
  clear T HE
  go_enter Tryz.func56, Tryz.ntmps56
  go_wp2_with fail
  refine C.out.mono ?_
  rintro e w1 ⟨rfl, hb⟩
  have B1 : Hid (Below w.heap.size w w1) := hb
  clear hb
  go_wp2
  go_ret
  exact ⟨rfl, B1.out⟩
theorem rLeaf (m : Int) (d : ByteArray) (hd : d.size ≤ 140737488352000) (w : World) (T : Tab4 w) : Calls Tryz.prog 57 #[.int .i64 m, .string d] w fun e w' => e = .returned (.string (LF m d)) ∧ Below w.heap.size w w' := by
  have C : Hid (Calls _ _ _ _ _) := rCut ((⟨#[0]⟩ : ByteArray) ++ d) m w (by rw [ByteArray.size_append, sz0]; omega) T
  have HE : Hid ((sha ((⟨#[0]⟩ : ByteArray) ++ d)).extract 0 (wid m) = LF m d) := rfl
  rw [HE.out] at C
  have h0 := sz0
  clear T HE
  go_enter Tryz.func57, Tryz.ntmps57
  go_wp2_with fail
  refine C.out.mono ?_
  rintro e w1 ⟨rfl, hb⟩
  have B1 : Hid (Below w.heap.size w w1) := hb
  clear hb
  go_wp2
  go_ret
  exact ⟨rfl, B1.out⟩
theorem rNode (m : Int) (l r : ByteArray) (hd : l.size + r.size ≤ 140737488351232) (w : World) (T : Tab4 w) : Calls Tryz.prog 59 #[.int .i64 m, .string l, .string r] w fun e w' => e = .returned (.string (NF m l r)) ∧ Below w.heap.size w w' := by
  have hz : ((⟨#[1]⟩ : ByteArray) ++ l).size = 1 + l.size := by rw [ByteArray.size_append, sz1]
  have C : Hid (Calls _ _ _ _ _) := rCut ((⟨#[1]⟩ : ByteArray) ++ l ++ r) m w (by rw [ByteArray.size_append, hz]; omega) T
  have HE : Hid ((sha ((⟨#[1]⟩ : ByteArray) ++ l ++ r)).extract 0 (wid m) = NF m l r) := rfl
  rw [HE.out] at C
  have h0 := sz1
  clear T HE
  go_enter Tryz.func59, Tryz.ntmps59
  go_wp2_with fail
  refine C.out.mono ?_
  rintro e w1 ⟨rfl, hb⟩
  have B1 : Hid (Below w.heap.size w w1) := hb
  clear hb
  go_wp2
  go_ret
  exact ⟨rfl, B1.out⟩
end Go.Proofs.YthppkdjekfginaaGreatDoor.kb

namespace Go.Proofs.YthppkdjekfginaaGreatDoor.kc
open Go.RowKit Go.PlainAid
open Go.Proofs.YthppkdjekfginaaGreatDoor.pl Go.Proofs.YthppkdjekfginaaGreatDoor.pi Go.Proofs.YthppkdjekfginaaGreatDoor.pj Go.Proofs.YthppkdjekfginaaGreatDoor.rf Go.Proofs.YthppkdjekfginaaGreatDoor.ca Go.Proofs.YthppkdjekfginaaGreatDoor.cp Go.Proofs.YthppkdjekfginaaGreatDoor.ka Go.Proofs.YthppkdjekfginaaGreatDoor.kb Go.Proofs.YthppkdjekfginaaGreatDoor.sj
set_option linter.unusedVariables false

theorem cutT (s : ByteArray) (m : Int) (w : World) (hs : s.size ≤ 1125899906842624) (T : Tab w) :
    Calls Tryz.prog 118 #[.string s, .int .i64 m] w fun e w' => e = .returned (.string (cutS s m)) ∧ Below w.heap.size w w' :=
  cut_of (sha s) s m w (sha_size s) (Sum s w (by omega) T)
-- the parts, one behind the other
def cat (xs : List ByteArray) : ByteArray := ⟨(Lib.join (xs.map (·.data.toList)) (⟨#[]⟩ : ByteArray).data.toList).toArray⟩
theorem cat_size (xs : List ByteArray) : (Lib.join (xs.map (·.data.toList)) (⟨#[]⟩ : ByteArray).data.toList).length = (cat xs).size := by
  unfold cat
  simp [ByteArray.size]
theorem cat_two (a b : ByteArray) : cat [a, b] = a ++ b := by
  apply ByteArray.ext
  rw [ByteArray.data_append]
  simp [cat, Lib.join, List.intercalate]
theorem cat_three (a b c : ByteArray) : cat [a, b, c] = a ++ b ++ c := by
  apply ByteArray.ext
  rw [ByteArray.data_append, ByteArray.data_append]
  simp [cat, Lib.join, List.intercalate]
theorem joins (xs : List ByteArray) (n b c : Nat) (hn : xs.length = n) (w : World) (hc : ∀ (j : Nat) x, xs[j]? = some x → w.cell? ⟨b, 0 + j, none⟩ = some (.string x)) (hb : b < w.heap.size) (h3 : n ≤ 3) (hcap : n ≤ c) (hs : (cat xs).size ≤ 281474976710656) :
    Calls Tryz.prog 119 #[.slice (some ⟨b, 0, none⟩) n c, .string ⟨#[]⟩] w fun e w' => e = .returned (.string (cat xs)) ∧ Below w.heap.size w w' := by
  subst hn
  exact Any.strings_Join_48 lays156 extra156 b 0 c xs ⟨#[]⟩ w hc hb (by omega) hcap (by rw [cat_size]; omega)
theorem hash (xs : List ByteArray) (n b c : Nat) (hn : xs.length = n) (wd : Int) (w : World) (T : Tab w) (hc : ∀ (j : Nat) x, xs[j]? = some x → w.cell? ⟨b, 0 + j, none⟩ = some (.string x)) (hb : b < w.heap.size) (h3 : n ≤ 3) (hcap : n ≤ c) (hs : (cat xs).size ≤ 281474976710656) :
    Calls Tryz.prog 85 #[.int .i64 wd, .slice (some ⟨b, 0, none⟩) n c] w fun e w' => e = .returned (.string (cutS (cat xs) wd)) ∧ Below w.heap.size w w' := by
  have J : Hid (Calls _ _ _ _ _) := joins xs n b c hn w hc hb h3 hcap hs
  have C : Hid (∀ w, Tab w → Calls _ _ _ _ _) := fun w T => cutT (cat xs) wd w (by omega) T
  have HT : Hid (Tab w) := T
  obtain ⟨s, HS⟩ : ∃ s, Hid (cat xs = s) := ⟨_, rfl⟩
  rw [HS.out] at J C ⊢
  obtain ⟨r, HR⟩ : ∃ r, Hid (cutS s wd = r) := ⟨_, rfl⟩
  rw [HR.out] at C ⊢
  clear hc hs T hn hb
  go_enter Tryz.func85, Tryz.ntmps85
  go_wp2_with fail
  refine J.out.mono ?_
  rintro e w1 ⟨rfl, hb⟩
  have B1 : Hid (Below w.heap.size w w1) := hb
  have T1 : Hid (Tab w1) := HT.out.down hb
  clear hb
  go_wp2_with fail
  refine (C.out _ T1.out).mono ?_
  rintro e w2 ⟨rfl, hb⟩
  have B2 : Hid (Below w.heap.size w w2) := over B1.out hb
  clear hb
  go_wp2
  go_ret
  exact ⟨rfl, B2.out⟩
theorem hash0 (wd : Int) (w : World) (T : Tab w) :
    Calls Tryz.prog 85 #[.int .i64 wd, .slice none 0 0] w fun e w' => e = .returned (.string (EF wd)) ∧ Below w.heap.size w w' := by
  have J : Hid (Calls _ _ _ _ _) := Any.strings_Join_none lays156 extra156 none 0 ⟨#[]⟩ w
  have C : Hid (∀ w, Tab w → Calls _ _ _ _ _) := fun w T => cutT ⟨#[]⟩ wd w (by decide) T
  have HT : Hid (Tab w) := T
  have HE : Hid (cutS ⟨#[]⟩ wd = EF wd) := rfl
  rw [HE.out] at C
  obtain ⟨r, HR⟩ : ∃ r, Hid (EF wd = r) := ⟨_, rfl⟩
  rw [HR.out] at C ⊢
  clear T HE
  go_enter Tryz.func85, Tryz.ntmps85
  go_wp2_with fail
  refine J.out.mono ?_
  rintro e w1 ⟨rfl, hw⟩
  rw [hw]
  clear hw
  go_wp2_with fail
  refine (C.out _ HT.out).mono ?_
  rintro e w2 ⟨rfl, hb⟩
  have B2 : Hid (Below w.heap.size w w2) := hb
  clear hb
  go_wp2
  go_ret
  exact ⟨rfl, B2.out⟩
theorem pEmpty (wd : Int) (w : World) (T : Tab w) :
    Calls Tryz.prog 49 #[.int .i64 wd] w fun e w' => e = .returned (.string (EF wd)) ∧ Below w.heap.size w w' := by
  have C : Hid (Calls _ _ _ _ _) := hash0 wd w T
  obtain ⟨r, HR⟩ : ∃ r, Hid (EF wd = r) := ⟨_, rfl⟩
  rw [HR.out] at C ⊢
  clear T
  go_enter Tryz.func49, Tryz.ntmps49
  go_wp2_with fail
  refine C.out.mono ?_
  rintro e w1 ⟨rfl, hb⟩
  have B1 : Hid (Below w.heap.size w w1) := hb
  clear hb
  go_wp2
  go_ret
  exact ⟨rfl, B1.out⟩
theorem new_cells (w : World) (vs : Array Value) (t : TypeId) (xs : List ByteArray) (h : vs = (xs.map Value.string).toArray) : ∀ (j : Nat) x, xs[j]? = some x → (w.alloc (.cells vs t)).cell? ⟨w.heap.size, 0 + j, none⟩ = some (.string x) := by
  intro j x hx
  subst h
  rw [World.cell?_alloc_at _ _ _ _ rfl, Nat.zero_add]
  simp [hx]
theorem pLeaf (wd : Int) (d : ByteArray) (hd : d.size ≤ 140737488352000) (w : World) (T : Tab w) :
    Calls Tryz.prog 50 #[.int .i64 wd, .string d] w fun e w' => e = .returned (.string (LF wd d)) ∧ Below w.heap.size w w' := by
  have C : Hid (Calls _ _ _ _ _) := hash [⟨#[0]⟩, d] 2 w.heap.size 2 rfl wd (w.alloc (.cells #[.string ⟨#[0]⟩, .string d] 9)) (T.down ((Below.refl _ _).alloc (Nat.le_refl _) _)) (new_cells w _ _ _ rfl) (by simp) (by omega) (by omega) (by rw [cat_two, ByteArray.size_append, sz0]; omega)
  have HE : Hid (cutS (cat [⟨#[0]⟩, d]) wd = LF wd d) := by show _ = _; rw [cat_two]; rfl
  rw [HE.out] at C
  have B0 : Hid (Below w.heap.size w (w.alloc (.cells #[.string ⟨#[0]⟩, .string d] 9))) := (Below.refl _ _).alloc (Nat.le_refl _) _
  obtain ⟨r, HR⟩ : ∃ r, Hid (LF wd d = r) := ⟨_, rfl⟩
  rw [HR.out] at C ⊢
  clear T HE
  go_enter Tryz.func50, Tryz.ntmps50
  go_wp2_with fail
  refine C.out.mono ?_
  rintro e w1 ⟨rfl, hb⟩
  have B1 : Hid (Below w.heap.size w w1) := over B0.out hb
  clear hb
  go_wp2
  go_ret
  exact ⟨rfl, B1.out⟩
theorem pNode (wd : Int) (l r : ByteArray) (hd : l.size + r.size ≤ 281474976702464) (w : World) (T : Tab w) :
    Calls Tryz.prog 52 #[.int .i64 wd, .string l, .string r] w fun e w' => e = .returned (.string (NF wd l r)) ∧ Below w.heap.size w w' := by
  have C : Hid (Calls _ _ _ _ _) := hash [⟨#[1]⟩, l, r] 3 w.heap.size 3 rfl wd (w.alloc (.cells #[.string ⟨#[1]⟩, .string l, .string r] 9)) (T.down ((Below.refl _ _).alloc (Nat.le_refl _) _)) (new_cells w _ _ _ rfl) (by simp) (by omega) (by omega) (by rw [cat_three, ByteArray.size_append, ByteArray.size_append, sz1]; omega)
  have HE : Hid (cutS (cat [⟨#[1]⟩, l, r]) wd = NF wd l r) := by show _ = _; rw [cat_three]; rfl
  rw [HE.out] at C
  have B0 : Hid (Below w.heap.size w (w.alloc (.cells #[.string ⟨#[1]⟩, .string l, .string r] 9))) := (Below.refl _ _).alloc (Nat.le_refl _) _
  obtain ⟨q, HR⟩ : ∃ q, Hid (NF wd l r = q) := ⟨_, rfl⟩
  rw [HR.out] at C ⊢
  clear T HE
  go_enter Tryz.func52, Tryz.ntmps52
  go_wp2_with fail
  refine C.out.mono ?_
  rintro e w1 ⟨rfl, hb⟩
  have B1 : Hid (Below w.heap.size w w1) := over B0.out hb
  clear hb
  go_wp2
  go_ret
  exact ⟨rfl, B1.out⟩
end Go.Proofs.YthppkdjekfginaaGreatDoor.kc

namespace Go.Proofs.YthppkdjekfginaaGreatDoor.gb
open Go.RowKit Go.PlainAid
open Go.Proofs.YthppkdjekfginaaGreatDoor.pl Go.Proofs.YthppkdjekfginaaGreatDoor.pi Go.Proofs.YthppkdjekfginaaGreatDoor.pj Go.Proofs.YthppkdjekfginaaGreatDoor.ca Go.Proofs.YthppkdjekfginaaGreatDoor.cb Go.Proofs.YthppkdjekfginaaGreatDoor.cp Go.Proofs.YthppkdjekfginaaGreatDoor.ka Go.Proofs.YthppkdjekfginaaGreatDoor.kb Go.Proofs.YthppkdjekfginaaGreatDoor.rf Go.Proofs.YthppkdjekfginaaGreatDoor.ga
set_option linter.unusedVariables false

-- the root of leaves; the proofs
def RT (wd : Int) (xs : List ByteArray) : ByteArray := rootP (EF wd) (NF wd) (xs.map (LF wd))
theorem RT_nil (wd : Int) : RT wd [] = EF wd := rootP_nil _ _
theorem RT_one (wd : Int) (x : ByteArray) : RT wd [x] = LF wd x := rootP_one _ _ _
theorem RT_half (wd : Int) {xs : List ByteArray} (h : 2 ≤ xs.length) : RT wd xs = NF wd (RT wd (xs.take (half xs.length))) (RT wd (xs.drop (half xs.length))) := by
  unfold RT
  rw [rootP_half _ _ (l := xs.map (LF wd)) (by rw [List.length_map]; exact h), List.length_map, ← List.map_take, ← List.map_drop]
theorem RT_size (wd : Int) (xs : List ByteArray) : (RT wd xs).size = wid wd := by
  rcases Nat.lt_or_ge xs.length 2 with e | e
  · match xs, e with
    | [], _ => rw [RT_nil]; exact cutS_size _ _
    | [x], _ => rw [RT_one]; exact cutS_size _ _
  · rw [RT_half wd e]; exact cutS_size _ _
theorem RT_le (wd : Int) (xs : List ByteArray) : (RT wd xs).size ≤ 32 := by rw [RT_size]; exact wid_le wd
theorem RT_pos (wd : Int) (xs : List ByteArray) : 1 ≤ (RT wd xs).size := by rw [RT_size]; unfold wid; split <;> omega
def PTn (wd : Int) (i : Nat) (xs : List ByteArray) : List ByteArray := pathP (EF wd) (NF wd) i (xs.map (LF wd))
theorem PTn_one (wd : Int) (i : Nat) {xs : List ByteArray} (h : ¬ 2 ≤ xs.length) : PTn wd i xs = [] := pathP_one _ _ (by rw [List.length_map]; exact h)
theorem PTn_low (wd : Int) {i : Nat} {xs : List ByteArray} (h : 2 ≤ xs.length) (hi : i < half xs.length) : PTn wd i xs = PTn wd i (xs.take (half xs.length)) ++ [RT wd (xs.drop (half xs.length))] := by
  unfold PTn RT
  rw [pathP_low _ _ (l := xs.map (LF wd)) (by rw [List.length_map]; exact h) (by rw [List.length_map]; exact hi), List.length_map, ← List.map_take, ← List.map_drop]
theorem PTn_high (wd : Int) {i : Nat} {xs : List ByteArray} (h : 2 ≤ xs.length) (hi : ¬ i < half xs.length) : PTn wd i xs = PTn wd (i - half xs.length) (xs.drop (half xs.length)) ++ [RT wd (xs.take (half xs.length))] := by
  unfold PTn RT
  rw [pathP_high _ _ (l := xs.map (LF wd)) (by rw [List.length_map]; exact h) (by rw [List.length_map]; exact hi), List.length_map, ← List.map_take, ← List.map_drop]
theorem PTn_len (wd : Int) (i : Nat) (xs : List ByteArray) : (PTn wd i xs).length ≤ xs.length - 1 := pathP_len _ _ _ i _ (List.length_map _)
def QTn (wd : Int) (m : Nat) (xs : List ByteArray) (b : Bool) : List ByteArray := subP (EF wd) (NF wd) m (xs.map (LF wd)) b
theorem QTn_all (wd : Int) {m : Nat} {xs : List ByteArray} (b : Bool) (h : ¬ m < xs.length) : QTn wd m xs b = if b then [] else [RT wd xs] := subP_all _ _ (by rw [List.length_map]; exact h)
theorem QTn_low (wd : Int) {m : Nat} {xs : List ByteArray} (b : Bool) (h : m < xs.length) (h2 : 2 ≤ xs.length) (hm : m ≤ half xs.length) : QTn wd m xs b = QTn wd m (xs.take (half xs.length)) b ++ [RT wd (xs.drop (half xs.length))] := by
  unfold QTn RT
  rw [subP_low _ _ (l := xs.map (LF wd)) (by rw [List.length_map]; exact h) (by rw [List.length_map]; exact h2) (by rw [List.length_map]; exact hm), List.length_map, ← List.map_take, ← List.map_drop]
theorem QTn_high (wd : Int) {m : Nat} {xs : List ByteArray} (b : Bool) (h : m < xs.length) (h2 : 2 ≤ xs.length) (hm : ¬ m ≤ half xs.length) : QTn wd m xs b = QTn wd (m - half xs.length) (xs.drop (half xs.length)) false ++ [RT wd (xs.take (half xs.length))] := by
  unfold QTn RT
  rw [subP_high _ _ (l := xs.map (LF wd)) (by rw [List.length_map]; exact h) (by rw [List.length_map]; exact h2) (by rw [List.length_map]; exact hm), List.length_map, ← List.map_take, ← List.map_drop]
theorem QTn_len (wd : Int) (m : Nat) (xs : List ByteArray) (b : Bool) (h : 1 ≤ xs.length) : (QTn wd m xs b).length ≤ xs.length := subP_len _ _ _ m _ b (List.length_map _) h
theorem RT_take (wd : Int) {xs : List ByteArray} {m : Nat} (h2 : 2 ≤ xs.length) (h : half xs.length < m) (hm : m < xs.length) : RT wd (xs.take m) = NF wd (RT wd (xs.take (half xs.length))) (RT wd ((xs.drop (half xs.length)).take (m - half xs.length))) := by
  have := root_take (EF wd) (NF wd) (l := xs.map (LF wd)) (m := m) (by rw [List.length_map]; exact h2) (by rw [List.length_map]; exact h) (by rw [List.length_map]; exact hm)
  rw [List.length_map] at this
  unfold RT
  rw [List.map_take, this, List.map_take, List.map_take, List.map_drop]
-- what the four answer
def PT (wd i : Int) (xs : List ByteArray) : List ByteArray := if 0 ≤ i ∧ i < xs.length then PTn wd i.toNat xs else []
def PE (i : Int) (xs : List ByteArray) : Int := if 0 ≤ i ∧ i < xs.length then 0 else 81
def QT (wd m : Int) (xs : List ByteArray) : List ByteArray := if 1 ≤ m ∧ m ≤ xs.length then QTn wd m.toNat xs true else []
def QE (m : Int) (xs : List ByteArray) : Int := if 0 ≤ m ∧ m ≤ xs.length then 0 else 80
theorem PT_len (wd i : Int) (xs : List ByteArray) : (PT wd i xs).length ≤ xs.length := by
  unfold PT
  split
  · have := PTn_len wd i.toNat xs; omega
  · simp
theorem QT_len (wd m : Int) (xs : List ByteArray) : (QT wd m xs).length ≤ xs.length := by
  unfold QT
  split
  · exact QTn_len wd m.toNat xs true (by omega)
  · simp
def NT (wd L I : Int) (xs : List ByteArray) : ByteArray := if okA L I ∧ (I + 1) * 2 ^ L.toNat ≤ xs.length then RT wd ((xs.drop (I * 2 ^ L.toNat).toNat).take (2 ^ L.toNat)) else ByteArray.empty
def NE (L I : Int) (xs : List ByteArray) : Int := if okA L I then (if (I + 1) * 2 ^ L.toNat ≤ xs.length then 0 else 80) else 50
-- leaves that a machine can hold
structure Fits (xs : List ByteArray) : Prop where
  each : ∀ x ∈ xs, x.size ≤ 140737488352000
  many : xs.length * 16 ≤ 140737488351232
theorem Fits.take {xs : List ByteArray} (h : Fits xs) (k : Nat) : Fits (xs.take k) := ⟨fun x hx => h.each x (List.mem_of_mem_take hx), by have := h.many; rw [List.length_take]; omega⟩
theorem Fits.drop {xs : List ByteArray} (h : Fits xs) (k : Nat) : Fits (xs.drop k) := ⟨fun x hx => h.each x (List.mem_of_mem_drop hx), by have := h.many; rw [List.length_drop]; omega⟩
-- a list of texts and an error
def Listed (w w' : World) (e : Ending) (ts : List ByteArray) (c : Int) : Prop := ∃ u, e = .returned (.tuple #[u, .int .i64 c]) ∧ w'.ownsRow w.heap.size 9 1 u ts.length (ts.map Value.string)
end Go.Proofs.YthppkdjekfginaaGreatDoor.gb

namespace Go.Proofs.YthppkdjekfginaaGreatDoor.gr
open Go.RowKit Go.PlainAid
open Go.Proofs.YthppkdjekfginaaGreatDoor.cp Go.Proofs.YthppkdjekfginaaGreatDoor.ka Go.Proofs.YthppkdjekfginaaGreatDoor.gb
set_option linter.unusedVariables false

-- what mth.Root promises (T: what it asks of the world)
def RootC (T : World → Prop) : Prop := ∀ (wd : Int) (v : Value) (xs : List ByteArray) (w : World), i64 wd → T w → ReadsT w v xs → Fits xs → Calls Tryz.prog 17 #[.int .i64 wd, v] w fun e w' => e = .returned (.string (RT wd xs)) ∧ Below w.heap.size w w'
end Go.Proofs.YthppkdjekfginaaGreatDoor.gr

namespace Go.Proofs.YthppkdjekfginaaGreatDoor.gc
open Go.RowKit Go.PlainAid
open Go.Proofs.YthppkdjekfginaaGreatDoor.pl Go.Proofs.YthppkdjekfginaaGreatDoor.pi Go.Proofs.YthppkdjekfginaaGreatDoor.pj Go.Proofs.YthppkdjekfginaaGreatDoor.ca Go.Proofs.YthppkdjekfginaaGreatDoor.cb Go.Proofs.YthppkdjekfginaaGreatDoor.cp Go.Proofs.YthppkdjekfginaaGreatDoor.ka Go.Proofs.YthppkdjekfginaaGreatDoor.kb Go.Proofs.YthppkdjekfginaaGreatDoor.rf Go.Proofs.YthppkdjekfginaaGreatDoor.ga Go.Proofs.YthppkdjekfginaaGreatDoor.gb
set_option linter.unusedVariables false

theorem half_of {n t j : Nat} (hj : 2 ^ j = t) (h1 : t < n) (h2 : ¬ 2 * t < n) : half n = t := by
  rw [← hj]
  exact half_eq (by rw [hj]; exact h1) (by rw [p2s, hj]; omega)
theorem rSplit (n : Nat) (h : 2 ≤ n) (hn : n ≤ 4611686018427387904) (w : World) :
    Calls Tryz.prog 58 #[.int .i64 n] w fun e w' => e = .returned (.int .i64 (half n : Nat)) ∧ w' = w := by
  obtain ⟨d, HD⟩ : ∃ d, Hid ((n - 1) / 2 = d) := ⟨_, rfl⟩
  have hd2 : ((n : Int) - 1) / 2 = (d : Int) := by have := HD.out; omega
  go_enter Tryz.func58, Tryz.ntmps58
  go_wp2
  go_loopw [3] (fun k wr => ∃ (t j : Nat), k = .int .i64 t ∧ t < n ∧ Hid (2 ^ j = t) ∧ wr = w) (fun k _ => (n - intOf k).toNat)
  case atStart => exact ⟨1, 0, rfl, by omega, rfl, rfl⟩
  case round =>
    obtain ⟨t, j, rfl, ht, HJ, rfl⟩ := hrel
    have ht0 : 0 < t := by rw [← HJ.out]; exact p2 j
    by_cases hlt : t ≤ d
    · have hlt' : (t : Int) ≤ d := by omega
      have HJ2 : Hid (2 ^ (j + 1) = 2 * t) := by show _ = _; rw [p2s, HJ.out]
      have hlt2 : 2 * t < n := by have := HD.out; omega
      go_wp2
      go_roundw
      case rel => exact ⟨2 * t, j + 1, by go_num, hlt2, HJ2.out, by first | rfl | trivial⟩
      case measure => simp [intOf]; omega
    · have hlt' : ¬ (t : Int) ≤ d := by omega
      have HE : Hid (half n = t) := half_of HJ.out ht (by have := HD.out; omega)
      go_wp2
      go_ret
      exact ⟨by rw [HE.out]; rfl, by first | rfl | trivial⟩
set_option maxHeartbeats 3200000 in
set_option maxRecDepth 100000 in
theorem rRoot (wd : Int) (n : Nat) : ∀ (xs : List ByteArray) (v : Value) (w : World), xs.length = n → Tab4 w → ReadsT w v xs → Fits xs →
    Calls Tryz.prog 22 #[.int .i64 wd, v] w fun e w' => e = .returned (.string (RT wd xs)) ∧ Below w.heap.size w w' := by
  induction n using Nat.strongRecOn with
  | ind n ih =>
    intro xs v w hn hT hR hx
    have HT : Hid (Tab4 w) := hT
    have HRD : Hid (ReadsT w v xs) := hR
    have HX : Hid (Fits xs) := hx
    have HN : Hid (xs.length = n) := hn
    have hnm : n ≤ 4611686018427387904 := by have := hx.many; omega
    have IH : Hid (∀ (m : Nat), m < n → ∀ (xs : List ByteArray) (v : Value) (w : World), xs.length = m → Tab4 w → ReadsT w v xs → Fits xs →
      Calls Tryz.prog 22 #[.int .i64 wd, v] w fun e w' => e = .returned (.string (RT wd xs)) ∧ Below w.heap.size w w') := ih
    obtain ⟨a, cap, rfl, hcap, hh⟩ := hR
    rw [HN.out] at hcap hh HRD ⊢
    have HH : Hid (n = 0 ∨ ∃ b off, a = some ⟨b, off, none⟩ ∧ ∀ i, i < n → w.cell? ⟨b, off + i, none⟩ = some (.string (xs.getD i ByteArray.empty))) := hh
    obtain ⟨R, HRR⟩ : ∃ R, Hid (RT wd xs = R) := ⟨_, rfl⟩
    rw [HRR.out]
    clear ih hn hT hx hh
    by_cases h0 : n = 0
    · have EC : Hid (∀ w, Tab4 w → Calls _ _ _ _ _) := fun w hw => rEmpty wd w hw
      have q0 : ((n : Int) == 0) = true := by rw [beq_iff_eq]; omega
      have HE : Hid (EF wd = R) := by
        show _ = _
        have : xs = [] := List.length_eq_zero_iff.1 (HN.out.trans h0)
        rw [← HRR.out, this, RT_nil]
      rw [HE.out] at EC
      clear h0
      go_enter Tryz.func22, Tryz.ntmps22
      go_wp2_with fail
      refine (EC.out _ HT.out).mono ?_
      rintro e w1 ⟨rfl, hb⟩
      have B1 : Hid (Below w.heap.size w w1) := hb
      clear hb
      go_wp2
      go_ret
      exact ⟨rfl, B1.out⟩
    · obtain ⟨b, off, rfl, hh⟩ : ∃ b off, a = some ⟨b, off, none⟩ ∧ ∀ i, i < n → w.cell? ⟨b, off + i, none⟩ = some (.string (xs.getD i ByteArray.empty)) := by
        rcases HH.out with h | h
        · exact absurd h h0
        · exact h
      have q0 : ((n : Int) == 0) = false := by rw [beq_eq_false_iff_ne]; omega
      by_cases h1 : n = 1
      · have q1 : ((n : Int) == 1) = true := by rw [beq_iff_eq]; omega
        have c0 := hh 0 (by omega)
        rw [Nat.add_zero] at c0
        have hn1 : (0 : Int) < n := by omega
        obtain ⟨x, hx⟩ := List.length_eq_one_iff.1 (HN.out.trans h1)
        have hxs : x.size ≤ 140737488352000 := HX.out.each x (by rw [hx]; simp)
        rw [hx] at c0
        have c1 : w.cell? ⟨b, off, none⟩ = some (.string x) := c0
        have LC : Hid (∀ w, Tab4 w → Calls _ _ _ _ _) := fun w hw => rLeaf wd x hxs w hw
        have HE : Hid (LF wd x = R) := by
          show _ = _
          rw [← HRR.out, hx, RT_one]
        rw [HE.out] at LC
        clear h0 h1 hh HH c0 hx hxs
        go_enter Tryz.func22, Tryz.ntmps22
        go_wp2_with fail
        refine (LC.out _ HT.out).mono ?_
        rintro e w1 ⟨rfl, hb⟩
        have B1 : Hid (Below w.heap.size w w1) := hb
        clear hb
        go_wp2
        go_ret
        exact ⟨rfl, B1.out⟩
      · have q1 : ((n : Int) == 1) = false := by rw [beq_eq_false_iff_ne]; omega
        have h2n : 2 ≤ n := by omega
        obtain ⟨t, HTT⟩ : ∃ t, Hid (half n = t) := ⟨_, rfl⟩
        have SC : Hid (∀ w, Calls _ _ _ _ _) := fun w => rSplit n h2n hnm w
        rw [HTT.out] at SC
        have hh2 := half_lt h2n
        rw [HTT.out] at hh2
        obtain ⟨ht1, htn, _⟩ := hh2
        have htx : t ≤ xs.length := by rw [HN.out]; omega
        obtain ⟨r1, HR1⟩ : ∃ r, Hid (RT wd (xs.take t) = r) := ⟨_, rfl⟩
        obtain ⟨r2, HR2⟩ : ∃ r, Hid (RT wd (xs.drop t) = r) := ⟨_, rfl⟩
        have HE : Hid (NF wd r1 r2 = R) := by
          show _ = _
          rw [← HRR.out, RT_half wd (by rw [HN.out]; exact h2n), HN.out, HTT.out, HR1.out, HR2.out]
        have R1 : Hid (ReadsT w (.slice (some ⟨b, off, none⟩) t cap) (xs.take t)) := HRD.out.front htx
        have R2 : Hid (ReadsT w (.slice (some ⟨b, off + t, none⟩) (n - t) (cap - t)) (xs.drop t)) := HRD.out.back htx
        have L1 : Hid ((xs.take t).length = t) := by show _ = _; rw [List.length_take]; omega
        have L2 : Hid ((xs.drop t).length = n - t) := by show _ = _; rw [List.length_drop, HN.out]
        have Z1 : r1.size ≤ 32 := by rw [← HR1.out]; exact RT_le _ _
        have Z2 : r2.size ≤ 32 := by rw [← HR2.out]; exact RT_le _ _
        have C1 : Hid (∀ w', Tab4 w' → ReadsT w' (.slice (some ⟨b, off, none⟩) t cap) (xs.take t) → Calls _ _ _ _ _) := fun w' h h' => IH.out t htn (xs.take t) _ w' L1.out h h' (HX.out.take t)
        have C2 : Hid (∀ w', Tab4 w' → ReadsT w' (.slice (some ⟨b, off + t, none⟩) (n - t) (cap - t)) (xs.drop t) → Calls _ _ _ _ _) := fun w' h h' => IH.out (n - t) (by omega) (xs.drop t) _ w' L2.out h h' (HX.out.drop t)
        have NC : Hid (∀ w', Tab4 w' → Calls _ _ _ _ _) := fun w' h => rNode wd r1 r2 (by omega) w' h
        rw [HR1.out] at C1
        rw [HR2.out] at C2
        rw [HE.out] at NC
        have htc : (t : Int) ≤ cap := by omega
        have htn' : (t : Int) ≤ n := by omega
        have hnc : (n : Int) ≤ cap := by omega
        have ent : ((n - t : Nat) : Int) = (n : Int) - t := by omega
        clear Z1 Z2 h0 h1 hh HH
        go_enter Tryz.func22, Tryz.ntmps22
        go_wp2_with fail
        refine (SC.out _).mono ?_
        rintro e w0 ⟨rfl, hw0⟩
        subst hw0
        go_wp2_with fail
        refine (C1.out _ HT.out R1.out).mono ?_
        rintro e w1 ⟨rfl, hb⟩
        have B1 : Hid (Below w0.heap.size w0 w1) := hb
        have T1 : Hid (Tab4 w1) := HT.out.down hb
        have R21 : Hid (ReadsT w1 (.slice (some ⟨b, off + t, none⟩) (n - t) (cap - t)) (xs.drop t)) := R2.out.later hb
        clear hb
        go_wp2_with fail
        refine (C2.out _ T1.out R21.out).mono ?_
        rintro e w2 ⟨rfl, hb⟩
        have B2 : Hid (Below w0.heap.size w0 w2) := over B1.out hb
        have T2 : Hid (Tab4 w2) := T1.out.down hb
        clear hb
        go_wp2_with fail
        refine (NC.out _ T2.out).mono ?_
        rintro e w3 ⟨rfl, hb⟩
        have B3 : Hid (Below w0.heap.size w0 w3) := over B2.out hb
        clear hb
        go_wp2
        go_ret
        exact ⟨rfl, B3.out⟩
end Go.Proofs.YthppkdjekfginaaGreatDoor.gc

namespace Go.Proofs.YthppkdjekfginaaGreatDoor.ma
open Go.RowKit Go.PlainAid
open Go.Proofs.YthppkdjekfginaaGreatDoor.ca Go.Proofs.YthppkdjekfginaaGreatDoor.cb Go.Proofs.YthppkdjekfginaaGreatDoor.cp Go.Proofs.YthppkdjekfginaaGreatDoor.ka Go.Proofs.YthppkdjekfginaaGreatDoor.ga Go.Proofs.YthppkdjekfginaaGreatDoor.gb Go.Proofs.YthppkdjekfginaaGreatDoor.xa Go.Proofs.YthppkdjekfginaaGreatDoor.xb
set_option linter.unusedVariables false

theorem len_int (x : Int) (w : World) (h0 : 0 ≤ x) (h1 : x ≤ 9223372036854775807) :
    Calls Tryz.prog 120 #[.int .u64 x] w fun e w' => e = .returned (.int .i64 (Lib.bitLen x.toNat)) ∧ w' = w := by
  have C : Hid (Calls _ _ _ _ _) := len_any x w h0 (by omega)
  obtain ⟨b, HB⟩ : ∃ b, Hid (Lib.bitLen x.toNat = b) := ⟨_, rfl⟩
  rw [HB.out] at C ⊢
  go_enter Tryz.func120, Tryz.ntmps120
  go_wp2_with fail
  refine C.out.mono ?_
  rintro e w1 ⟨rfl, hw⟩
  subst hw
  go_wp2
  go_ret
  exact ⟨rfl, rfl⟩
theorem half_len {n : Nat} (h : 2 ≤ n) (hn : n ≤ 4611686018427387904) : ∃ l, Lib.bitLen (n - 1) = l + 1 ∧ half n = 2 ^ l ∧ l ≤ 62 := by
  obtain ⟨g1, g2⟩ := len_spec (n - 1) (by omega)
  obtain ⟨g3, g4⟩ := g2 (by omega)
  have g5 := len_le63 (n - 1) (by omega)
  obtain ⟨l, hl⟩ : ∃ l, Lib.bitLen (n - 1) = l + 1 := ⟨Lib.bitLen (n - 1) - 1, by omega⟩
  rw [hl] at g1 g3 g5
  rw [Nat.add_sub_cancel] at g3
  exact ⟨l, hl, half_eq (by omega) (by omega), by omega⟩
-- the program's split
theorem msplit (n : Nat) (h : 2 ≤ n) (hn : n ≤ 4611686018427387904) (w : World) :
    Calls Tryz.prog 86 #[.int .i64 n] w fun e w' => e = .returned (.int .i64 (half n : Nat)) ∧ w' = w := by
  obtain ⟨l, hl, he, h62⟩ := half_len h hn
  have hlt := (half_lt h).2.1
  have C : Hid (∀ w, Calls _ _ _ _ _) := fun w => len_int ((n : Int) - 1) w (by omega) (by omega)
  rw [show ((n : Int) - 1).toNat = n - 1 by omega, hl] at C
  obtain ⟨t, HT⟩ : ∃ t : Nat, Hid (2 ^ l = t) := ⟨_, rfl⟩
  have hT : (2 : Int) ^ l = (t : Int) := by rw [cast_pow, HT.out]
  rw [he, HT.out] at hlt ⊢
  have hw1 : ((l + 1 : Nat) : Int) = (l : Int) + 1 := by omega
  have hw2 : IntKind.u64.wrap (l : Int) = l := u64_is l (by omega)
  have hw3 : min (l : Int).toNat 64 = l := by omega
  have hw4 : min l 64 = l := by omega
  have hw5 : IntKind.i64.wrap (t : Int) = t := wrap_is t (by omega)
  rw [hw1] at C
  clear hl he
  go_enter Tryz.func86, Tryz.ntmps86
  go_wp2_with fail
  refine (C.out _).mono ?_
  rintro e w1 ⟨rfl, hw⟩
  subst hw
  go_wp2
  go_ret
  exact ⟨rfl, rfl⟩
-- a list without room behind it
theorem tightT {w : World} {a : Option Addr} {n cap : Nat} {xs : List ByteArray} (h : ReadsT w (.slice a n cap) xs) : ReadsT w (.slice a n n) xs := by
  obtain ⟨a', cap', e, hc, hh⟩ := h
  injection e with e1 e2 e3
  subst e1 e2
  exact ⟨_, _, rfl, Nat.le_refl _, hh⟩
theorem parts (b off n cap : Nat) (h : 2 ≤ n) (hn : n ≤ 4611686018427387904) (hc : n ≤ cap) (w : World) :
    Calls Tryz.prog 51 #[.slice (some ⟨b, off, none⟩) n cap] w fun e w' => e = .returned (.tuple #[.slice (some ⟨b, off, none⟩) (half n) (half n), .slice (some ⟨b, off + half n, none⟩) (n - half n) (n - half n)]) ∧ ∃ m, w' = w.drewN m := by
  have C : Hid (∀ w, Calls _ _ _ _ _) := fun w => msplit n h hn w
  have hh := half_lt h
  obtain ⟨t, HT⟩ : ∃ t : Nat, Hid (half n = t) := ⟨_, rfl⟩
  rw [HT.out] at C hh ⊢
  obtain ⟨h1, h2, h3⟩ := hh
  have g1 : (t : Int) ≤ cap := by omega
  have g2 : (t : Int) ≤ n := by omega
  have g3 : (n : Int) ≤ cap := by omega
  have ent : ((n - t : Nat) : Int) = (n : Int) - t := by omega
  go_enter Tryz.func51, Tryz.ntmps51
  go_wp2_with fail
  refine (C.out _).mono ?_
  rintro e w1 ⟨rfl, hw⟩
  subst hw
  go_wp2_with fail
  go_quiet (fail)
  go_wp2
  go_ret2
  exact ⟨rfl, _, rfl⟩
end Go.Proofs.YthppkdjekfginaaGreatDoor.ma

namespace Go.Proofs.YthppkdjekfginaaGreatDoor.mb
open Go.RowKit Go.PlainAid
open Go.Proofs.YthppkdjekfginaaGreatDoor.pl Go.Proofs.YthppkdjekfginaaGreatDoor.pi Go.Proofs.YthppkdjekfginaaGreatDoor.pj Go.Proofs.YthppkdjekfginaaGreatDoor.ca Go.Proofs.YthppkdjekfginaaGreatDoor.cb Go.Proofs.YthppkdjekfginaaGreatDoor.cp Go.Proofs.YthppkdjekfginaaGreatDoor.ka Go.Proofs.YthppkdjekfginaaGreatDoor.kb Go.Proofs.YthppkdjekfginaaGreatDoor.kc Go.Proofs.YthppkdjekfginaaGreatDoor.rf Go.Proofs.YthppkdjekfginaaGreatDoor.ga Go.Proofs.YthppkdjekfginaaGreatDoor.gb Go.Proofs.YthppkdjekfginaaGreatDoor.gr Go.Proofs.YthppkdjekfginaaGreatDoor.ma
set_option linter.unusedVariables false

set_option maxHeartbeats 3200000 in
set_option maxRecDepth 100000 in
theorem root (wd : Int) (n : Nat) : ∀ (xs : List ByteArray) (v : Value) (w : World), xs.length = n → Tab w → ReadsT w v xs → Fits xs →
    Calls Tryz.prog 17 #[.int .i64 wd, v] w fun e w' => e = .returned (.string (RT wd xs)) ∧ Below w.heap.size w w' := by
  induction n using Nat.strongRecOn with
  | ind n ih =>
    intro xs v w hn hT hR hx
    have HT : Hid (Tab w) := hT
    have HRD : Hid (ReadsT w v xs) := hR
    have HX : Hid (Fits xs) := hx
    have HN : Hid (xs.length = n) := hn
    have hnm : n ≤ 4611686018427387904 := by have := hx.many; omega
    have IH : Hid (∀ (m : Nat), m < n → ∀ (xs : List ByteArray) (v : Value) (w : World), xs.length = m → Tab w → ReadsT w v xs → Fits xs →
      Calls Tryz.prog 17 #[.int .i64 wd, v] w fun e w' => e = .returned (.string (RT wd xs)) ∧ Below w.heap.size w w') := ih
    obtain ⟨a, cap, rfl, hcap, hh⟩ := hR
    rw [HN.out] at hcap hh HRD ⊢
    have HH : Hid (n = 0 ∨ ∃ b off, a = some ⟨b, off, none⟩ ∧ ∀ i, i < n → w.cell? ⟨b, off + i, none⟩ = some (.string (xs.getD i ByteArray.empty))) := hh
    obtain ⟨R, HRR⟩ : ∃ R, Hid (RT wd xs = R) := ⟨_, rfl⟩
    rw [HRR.out]
    clear ih hn hT hx hh
    by_cases h0 : n = 0
    · have EC : Hid (∀ w, Tab w → Calls _ _ _ _ _) := fun w hw => pEmpty wd w hw
      have q0 : ((n : Int) == 0) = true := by rw [beq_iff_eq]; omega
      have HE : Hid (EF wd = R) := by
        show _ = _
        have : xs = [] := List.length_eq_zero_iff.1 (HN.out.trans h0)
        rw [← HRR.out, this, RT_nil]
      rw [HE.out] at EC
      clear h0
      go_enter Tryz.func17, Tryz.ntmps17
      go_wp2_with fail
      refine (EC.out _ HT.out).mono ?_
      rintro e w1 ⟨rfl, hb⟩
      have B1 : Hid (Below w.heap.size w w1) := hb
      clear hb
      go_wp2
      go_ret
      exact ⟨rfl, B1.out⟩
    · obtain ⟨b, off, rfl, hh⟩ : ∃ b off, a = some ⟨b, off, none⟩ ∧ ∀ i, i < n → w.cell? ⟨b, off + i, none⟩ = some (.string (xs.getD i ByteArray.empty)) := by
        rcases HH.out with h | h
        · exact absurd h h0
        · exact h
      have q0 : ((n : Int) == 0) = false := by rw [beq_eq_false_iff_ne]; omega
      by_cases h1 : n = 1
      · have q1 : ((n : Int) == 1) = true := by rw [beq_iff_eq]; omega
        have c0 := hh 0 (by omega)
        rw [Nat.add_zero] at c0
        have hn1 : (0 : Int) < n := by omega
        obtain ⟨x, hx⟩ := List.length_eq_one_iff.1 (HN.out.trans h1)
        have hxs : x.size ≤ 140737488352000 := HX.out.each x (by rw [hx]; simp)
        rw [hx] at c0
        have c1 : w.cell? ⟨b, off, none⟩ = some (.string x) := c0
        have LC : Hid (∀ w, Tab w → Calls _ _ _ _ _) := fun w hw => pLeaf wd x hxs w hw
        have HE : Hid (LF wd x = R) := by
          show _ = _
          rw [← HRR.out, hx, RT_one]
        rw [HE.out] at LC
        clear h0 h1 hh HH c0 hx hxs
        go_enter Tryz.func17, Tryz.ntmps17
        go_wp2_with fail
        refine (LC.out _ HT.out).mono ?_
        rintro e w1 ⟨rfl, hb⟩
        have B1 : Hid (Below w.heap.size w w1) := hb
        clear hb
        go_wp2
        go_ret
        exact ⟨rfl, B1.out⟩
      · have q1 : ((n : Int) == 1) = false := by rw [beq_eq_false_iff_ne]; omega
        have h2n : 2 ≤ n := by omega
        have SC : Hid (∀ w, Calls _ _ _ _ _) := fun w => parts b off n cap h2n hnm hcap w
        obtain ⟨t, HTT⟩ : ∃ t, Hid (half n = t) := ⟨_, rfl⟩
        rw [HTT.out] at SC
        have hh2 := half_lt h2n
        rw [HTT.out] at hh2
        obtain ⟨ht1, htn, _⟩ := hh2
        have htx : t ≤ xs.length := by rw [HN.out]; omega
        obtain ⟨r1, HR1⟩ : ∃ r, Hid (RT wd (xs.take t) = r) := ⟨_, rfl⟩
        obtain ⟨r2, HR2⟩ : ∃ r, Hid (RT wd (xs.drop t) = r) := ⟨_, rfl⟩
        have HE : Hid (NF wd r1 r2 = R) := by
          show _ = _
          rw [← HRR.out, RT_half wd (by rw [HN.out]; exact h2n), HN.out, HTT.out, HR1.out, HR2.out]
        have R1 : Hid (ReadsT w (.slice (some ⟨b, off, none⟩) t t) (xs.take t)) := tightT (HRD.out.front htx)
        have R2 : Hid (ReadsT w (.slice (some ⟨b, off + t, none⟩) (n - t) (n - t)) (xs.drop t)) := tightT (HRD.out.back htx)
        have L1 : Hid ((xs.take t).length = t) := by show _ = _; rw [List.length_take]; omega
        have L2 : Hid ((xs.drop t).length = n - t) := by show _ = _; rw [List.length_drop, HN.out]
        have Z1 : r1.size ≤ 32 := by rw [← HR1.out]; exact RT_le _ _
        have Z2 : r2.size ≤ 32 := by rw [← HR2.out]; exact RT_le _ _
        have C1 : Hid (∀ w', Tab w' → ReadsT w' (.slice (some ⟨b, off, none⟩) t t) (xs.take t) → Calls _ _ _ _ _) := fun w' h h' => IH.out t htn (xs.take t) _ w' L1.out h h' (HX.out.take t)
        have C2 : Hid (∀ w', Tab w' → ReadsT w' (.slice (some ⟨b, off + t, none⟩) (n - t) (n - t)) (xs.drop t) → Calls _ _ _ _ _) := fun w' h h' => IH.out (n - t) (by omega) (xs.drop t) _ w' L2.out h h' (HX.out.drop t)
        have NC : Hid (∀ w', Tab w' → Calls _ _ _ _ _) := fun w' h => pNode wd r1 r2 (by omega) w' h
        rw [HR1.out] at C1
        rw [HR2.out] at C2
        rw [HE.out] at NC
        clear Z1 Z2 h0 h1 hh HH
        go_enter Tryz.func17, Tryz.ntmps17
        go_wp2_with fail
        refine (SC.out _).mono ?_
        rintro e w0 ⟨rfl, q, hw0⟩
        have B0 : Hid (Below w.heap.size w w0) := by rw [hw0]; exact below_dN (Below.refl _ _) q
        have T0 : Hid (Tab w0) := HT.out.down B0.out
        have R10 : Hid (ReadsT w0 (.slice (some ⟨b, off, none⟩) t t) (xs.take t)) := R1.out.later B0.out
        clear hw0
        go_wp2_with fail
        refine (C1.out _ T0.out R10.out).mono ?_
        rintro e w1 ⟨rfl, hb⟩
        have B1 : Hid (Below w.heap.size w w1) := over B0.out hb
        have T1 : Hid (Tab w1) := HT.out.down B1.out
        have R21 : Hid (ReadsT w1 (.slice (some ⟨b, off + t, none⟩) (n - t) (n - t)) (xs.drop t)) := R2.out.later B1.out
        clear hb
        go_wp2_with fail
        refine (C2.out _ T1.out R21.out).mono ?_
        rintro e w2 ⟨rfl, hb⟩
        have B2 : Hid (Below w.heap.size w w2) := over B1.out hb
        have T2 : Hid (Tab w2) := T1.out.down hb
        clear hb
        go_wp2_with fail
        refine (NC.out _ T2.out).mono ?_
        rintro e w3 ⟨rfl, hb⟩
        have B3 : Hid (Below w.heap.size w w3) := over B2.out hb
        clear hb
        go_wp2
        go_ret
        exact ⟨rfl, B3.out⟩
theorem rootC : RootC Tab := fun wd v xs w _ t h f => root wd xs.length xs v w rfl t h f
end Go.Proofs.YthppkdjekfginaaGreatDoor.mb

namespace Go.Proofs.YthppkdjekfginaaGreatDoor.cv
open Go.RowKit Go.PlainAid
open Go.Proofs.YthppkdjekfginaaGreatDoor.cp
theorem fits64 (a : Int) (h : (Lit.int .i64 a).wf = true) : -9223372036854775808 ≤ a ∧ a ≤ 9223372036854775807 := by
  simp only [Lit.wf, Bool.and_eq_true, decide_eq_true_eq] at h
  obtain ⟨h1, h2⟩ := h
  have e1 : IntKind.i64.min = -9223372036854775808 := by decide
  have e2 : IntKind.i64.max = 9223372036854775807 := by decide
  omega
set_option maxRecDepth 100000 in
theorem i64_of {a : Int} (h : (Lit.int .i64 a).wf = true) : i64 a := fits64 a h
end Go.Proofs.YthppkdjekfginaaGreatDoor.cv

namespace Go.Proofs.YthppkdjekfginaaGreatDoor.va
open Go.RowKit Go.PlainAid
open Go.Proofs.YthppkdjekfginaaGreatDoor.pl Go.Proofs.YthppkdjekfginaaGreatDoor.pi Go.Proofs.YthppkdjekfginaaGreatDoor.pj Go.Proofs.YthppkdjekfginaaGreatDoor.rf Go.Proofs.YthppkdjekfginaaGreatDoor.ca Go.Proofs.YthppkdjekfginaaGreatDoor.cb Go.Proofs.YthppkdjekfginaaGreatDoor.cp Go.Proofs.YthppkdjekfginaaGreatDoor.ka Go.Proofs.YthppkdjekfginaaGreatDoor.kb Go.Proofs.YthppkdjekfginaaGreatDoor.kc Go.Proofs.YthppkdjekfginaaGreatDoor.ga Go.Proofs.YthppkdjekfginaaGreatDoor.gb
set_option linter.unusedVariables false

theorem getD_at (xs : List ByteArray) (k : Nat) (h : k < xs.length) : xs.getD k ByteArray.empty = xs[k] := by
  rw [List.getD_eq_getElem?_getD, List.getElem?_eq_getElem h]; rfl
def LX (wd : Int) (xs : List ByteArray) : List ByteArray := xs.map (LF wd)
theorem LX_len (wd : Int) (xs : List ByteArray) : (LX wd xs).length = xs.length := List.length_map _
end Go.Proofs.YthppkdjekfginaaGreatDoor.va

namespace Go.Proofs.YthppkdjekfginaaGreatDoor.vc
open Go.RowKit Go.PlainAid
open Go.Proofs.YthppkdjekfginaaGreatDoor.pj Go.Proofs.YthppkdjekfginaaGreatDoor.rf Go.Proofs.YthppkdjekfginaaGreatDoor.ca Go.Proofs.YthppkdjekfginaaGreatDoor.cb Go.Proofs.YthppkdjekfginaaGreatDoor.cp Go.Proofs.YthppkdjekfginaaGreatDoor.ka Go.Proofs.YthppkdjekfginaaGreatDoor.kb Go.Proofs.YthppkdjekfginaaGreatDoor.ga Go.Proofs.YthppkdjekfginaaGreatDoor.gb
set_option linter.unusedVariables false

theorem getD_at (xs : List ByteArray) (k : Nat) (h : k < xs.length) : xs.getD k ByteArray.empty = xs[k] := by
  rw [List.getD_eq_getElem?_getD, List.getElem?_eq_getElem h]; rfl
theorem lists_eq {xs ys : List ByteArray} (hl : xs.length = ys.length) (h : ∀ j, j < xs.length → xs.getD j ByteArray.empty = ys.getD j ByteArray.empty) : xs = ys := by
  apply List.ext_getElem hl
  intro j h1 h2
  have := h j h1
  rwa [getD_at _ _ h1, getD_at _ _ h2] at this
theorem beqL (a b : ByteArray) : (a.toList == b.toList) = decide (a = b) := by
  by_cases h : a = b
  · subst h; simp
  · rw [decide_eq_false h, beq_eq_false_iff_ne, ByteArray.toList_eq, ByteArray.toList_eq]
    intro e
    exact h (ByteArray.ext (Array.ext' e))
theorem beqLit (a : ByteArray) (l : List UInt8) : (a.toList == l) = decide (a = ⟨l.toArray⟩) := by
  rw [← beqL, ByteArray.toList_eq, ByteArray.toList_eq]
-- two lists held against each other: nothing is written
set_option maxHeartbeats 1600000 in
theorem same (va vb : Value) (xs ys : List ByteArray) (w : World) (h1 : ReadsT w va xs) (h2 : ReadsT w vb ys) (hz : xs.length ≤ 140737488355328) :
    Calls Tryz.prog 31 #[va, vb] w fun e w' => e = .returned (.bool (decide (xs = ys))) ∧ ∃ m, w' = w.drewN m := by
  obtain ⟨a, cap, rfl, _, h1⟩ := h1
  obtain ⟨a', cap', rfl, _, h2⟩ := h2
  by_cases hl : xs.length = ys.length
  · have HC : Hid (xs.length = 0 ∨ ∃ b off, a = some ⟨b, off, none⟩ ∧ ∀ i, i < xs.length → w.cell? ⟨b, off + i, none⟩ = some (.string (xs.getD i ByteArray.empty))) := h1
    rw [← hl] at h2 ⊢
    have HC' : Hid (xs.length = 0 ∨ ∃ b off, a' = some ⟨b, off, none⟩ ∧ ∀ i, i < xs.length → w.cell? ⟨b, off + i, none⟩ = some (.string (ys.getD i ByteArray.empty))) := h2
    have HL : Hid (xs.length = ys.length) := hl
    obtain ⟨n, HN⟩ : ∃ n, Hid (xs.length = n) := ⟨_, rfl⟩
    obtain ⟨r, HR⟩ : ∃ r, Hid (decide (xs = ys) = r) := ⟨_, rfl⟩
    rw [HR.out]
    rw [HN.out] at HC HC' hz ⊢
    clear h1 h2 hl
    have hl' : ((n : Int) == (n : Int)) = true := beq_self_eq_true _
    go_enter Tryz.func31, Tryz.ntmps31
    go_wp2
    go_loopw [13] (fun i wr => ∃ k m : Nat, k ≤ n ∧ i = .int .i64 k ∧ Hid (∀ j, j < k → xs.getD j ByteArray.empty = ys.getD j ByteArray.empty) ∧ wr = w.drewN m) (fun i _ => (n - intOf i).toNat)
    case atStart => exact ⟨0, 0, by omega, rfl, fun j h => by omega, rfl⟩
    case round =>
      obtain ⟨k, m, hk, rfl, HS, rfl⟩ := hrel
      by_cases hlt : k < n
      · have hlt' : (k : Int) < n := by omega
        obtain ⟨b, off, rfl, hc⟩ : ∃ b off, a = some ⟨b, off, none⟩ ∧ ∀ i, i < n → w.cell? ⟨b, off + i, none⟩ = some (.string (xs.getD i ByteArray.empty)) := by
          rcases HC.out with h | h
          · omega
          · exact h
        obtain ⟨b', off', rfl, hc'⟩ : ∃ b off, a' = some ⟨b, off, none⟩ ∧ ∀ i, i < n → w.cell? ⟨b, off + i, none⟩ = some (.string (ys.getD i ByteArray.empty)) := by
          rcases HC'.out with h | h
          · omega
          · exact h
        obtain ⟨X, HX⟩ : ∃ X, Hid (xs.getD k ByteArray.empty = X) := ⟨_, rfl⟩
        obtain ⟨Y, HY⟩ : ∃ X, Hid (ys.getD k ByteArray.empty = X) := ⟨_, rfl⟩
        have c1 := hc k hlt
        have c2 := hc' k hlt
        rw [HX.out] at c1
        rw [HY.out] at c2
        clear hc hc'
        by_cases hxy : X = Y
        · have hb : (X.toList == Y.toList) = true := by rw [beqL]; exact decide_eq_true hxy
          have HS1 : Hid (∀ j, j < k + 1 → xs.getD j ByteArray.empty = ys.getD j ByteArray.empty) := fun j hj => by
            rcases Nat.lt_or_ge j k with h | h
            · exact HS.out j h
            · obtain rfl : j = k := by omega
              rw [HX.out, HY.out, hxy]
          clear hxy
          go_wp2_with fail
          go_quiet (fail)
          go_wp2
          go_roundw
          case rel => exact ⟨k + 1, _, by omega, by go_num, HS1.out, rfl⟩
          case measure => simp [intOf]; omega
        · have hb : (X.toList == Y.toList) = false := by rw [beqL]; exact decide_eq_false hxy
          have HE : Hid (r = false) := by
            show _ = _
            rw [← HR.out]
            apply decide_eq_false
            intro e
            apply hxy
            rw [← HX.out, ← HY.out, e]
          clear hxy
          go_wp2_with fail
          go_quiet (fail)
          go_wp2
          go_ret
          exact ⟨by rw [HE.out]; rfl, m + nq, by rw [World.drewN_drewN]⟩
      · have hlt' : ¬ (k : Int) < n := by omega
        have HE : Hid (r = true) := by
          show _ = _
          rw [← HR.out]
          apply decide_eq_true
          exact lists_eq HL.out (fun j hj => HS.out j (by rw [HN.out] at hj; omega))
        go_wp2
        go_ret
        exact ⟨by rw [HE.out]; rfl, _, rfl⟩
  · rw [decide_eq_false (fun e => hl (by rw [e]))]
    have hb : ((xs.length : Int) == (ys.length : Int)) = false := by rw [beq_eq_false_iff_ne]; omega
    clear hl h1 h2
    go_enter Tryz.func31, Tryz.ntmps31
    go_wp2
    go_ret
    exact ⟨rfl, 0, rfl⟩
-- a list held against itself
end Go.Proofs.YthppkdjekfginaaGreatDoor.vc
