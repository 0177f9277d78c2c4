import Derived.Test.YtfaalpdeabdhcaaGreatDoorG1
import Derived.Deep.MidRow
import Derived.Test.YtfaalpdeabdhcaaGreatDoorG2
import Derived.Shelf.Strings.OnBuilder
import Derived.Test.YtfaalpdeabdhcaaGreatDoorProg
import Derived.Room.Shelf.Join48
import Derived.Laws.BitsAllLaws
import Derived.Lib.SliceRun
import Derived.BigQuiet
import Derived.Test.YtfaalpdeabdhcaaGreatDoorG3
import Derived.Deep.DeepCutAuto
namespace Go.Proofs.YtfaalpdeabdhcaaGreatDoor.ka
open Go.RowKit Go.PlainAid
open Go.Proofs.YtfaalpdeabdhcaaGreatDoor.ca Go.Proofs.YtfaalpdeabdhcaaGreatDoor.cp
set_option linter.unusedVariables false

-- a list of texts, wherever it lies
def ReadsT (w : World) (v : Value) (xs : List ByteArray) : Prop :=
  ∃ a cap, v = .slice a xs.length cap ∧ xs.length ≤ cap ∧ (xs.length = 0 ∨ ∃ b off, a = some ⟨b, off, none⟩ ∧ ∀ i, i < xs.length → w.cell? ⟨b, off + i, none⟩ = some (.string (xs.getD i ByteArray.empty)))
theorem ReadsT.later {w w' : World} {v : Value} {xs : List ByteArray} (h : ReadsT w v xs) (hb : Below w.heap.size w w') : ReadsT w' v xs := by
  obtain ⟨a, cap, rfl, hc, h0 | ⟨b, off, rfl, hh⟩⟩ := h
  · exact ⟨a, cap, rfl, hc, .inl h0⟩
  · refine ⟨_, cap, rfl, hc, .inr ⟨b, off, rfl, fun i hi => ?_⟩⟩
    have := hh i hi
    exact (hb.cell (p := ⟨b, off + i, none⟩) (World.block_lt_of_cell? _ _ this)).trans this
theorem ReadsT.front {w : World} {b off n cap k : Nat} {xs : List ByteArray} (h : ReadsT w (.slice (some ⟨b, off, none⟩) n cap) xs) (hk : k ≤ xs.length) : ReadsT w (.slice (some ⟨b, off, none⟩) k cap) (xs.take k) := by
  obtain ⟨a, cap', e, hc, hh⟩ := h
  injection e with e1 e2 e3
  subst e1 e3
  have hl : (xs.take k).length = k := by rw [List.length_take]; omega
  refine ⟨_, cap, by rw [hl], by omega, ?_⟩
  rcases hh with h0 | ⟨b', off', e4, hh⟩
  · left; omega
  · injection e4 with e4
    injection e4 with e5 e6
    subst e5 e6
    refine .inr ⟨b, off, rfl, fun i hi => ?_⟩
    rw [hl] at hi
    rw [hh i (by omega), List.getD_eq_getElem?_getD, List.getD_eq_getElem?_getD, List.getElem?_take, if_pos hi]
theorem ReadsT.back {w : World} {b off n cap k : Nat} {xs : List ByteArray} (h : ReadsT w (.slice (some ⟨b, off, none⟩) n cap) xs) (hk : k ≤ xs.length) : ReadsT w (.slice (some ⟨b, off + k, none⟩) (n - k) (cap - k)) (xs.drop k) := by
  obtain ⟨a, cap', e, hc, hh⟩ := h
  injection e with e1 e2 e3
  subst e1 e2 e3
  have hl : (xs.drop k).length = xs.length - k := List.length_drop
  refine ⟨_, cap - k, by rw [hl], by omega, ?_⟩
  rcases hh with h0 | ⟨b', off', e4, hh⟩
  · left; omega
  · injection e4 with e4
    injection e4 with e5 e6
    subst e5 e6
    refine .inr ⟨b, off + k, rfl, fun i hi => ?_⟩
    rw [hl] at hi
    rw [Nat.add_assoc, hh (k + i) (by omega), List.getD_eq_getElem?_getD, List.getD_eq_getElem?_getD, List.getElem?_drop]
theorem ReadsT.mid {w : World} {b off n cap f k : Nat} {xs : List ByteArray} (h : ReadsT w (.slice (some ⟨b, off, none⟩) n cap) xs) (hk : f + k ≤ xs.length) : ReadsT w (.slice (some ⟨b, off + f, none⟩) k (cap - f)) ((xs.drop f).take k) := by
  have h1 := h.back (k := f) (by omega)
  exact ReadsT.front (n := n - f) h1 (by rw [List.length_drop]; omega)
theorem own_readsT {w : World} {B n : Nat} {v : Value} {xs : List ByteArray} (h : w.ownsRow B 9 1 v n (xs.map Value.string)) : ReadsT w v xs := by
  have hn : xs.length = n := by have := h.1; simpa using this
  subst hn
  rcases h.2 with ⟨rfl, h0⟩ | ⟨g, cap, cur, rfl, _, hg, hc, _⟩
  · exact ⟨none, 0, by rw [h0], by omega, .inl h0⟩
  · refine ⟨_, cap, rfl, hc, .inr ⟨g, 0, rfl, fun i hi => ?_⟩⟩
    rw [Nat.zero_add, h.cellAt i (by omega), List.getElem?_map, List.getElem?_eq_getElem hi, List.getD_eq_getElem?_getD, List.getElem?_eq_getElem hi]
    rfl
theorem hi9 : (Tryz.prog.info? 9).map (fun i => (i.zero, i.size, i.bytes)) = some (some (.string ByteArray.empty), 1, 16) := by kernel_rfl
theorem info_parts {t : TypeId} {z : Value} {n b : Nat} (h : (Tryz.prog.info? t).map (fun i => (i.zero, i.size, i.bytes)) = some (some z, n, b)) : ∃ i, Tryz.prog.info? t = some i ∧ i.zero = some z ∧ i.size = n ∧ i.bytes = b := by
  obtain ⟨i, hi, he⟩ := Option.map_eq_some_iff.1 h
  injection he with e1 e2
  injection e2 with e2 e3
  exact ⟨i, hi, e1, e2, e3⟩
theorem own_formS {w : World} {B e size n : Nat} {v : Value} {xs : List Value} (h : w.ownsRow B e size v n xs) : ∃ a c, v = .slice a n c := by
  rcases h.2 with ⟨rfl, rfl⟩ | ⟨g, cap, cur, rfl, _⟩
  · exact ⟨_, _, rfl⟩
  · exact ⟨_, _, rfl⟩
theorem new_text (W : World) (u : Value) (t : TypeId) : ∀ (j : Nat) (x : Value), [u][j]? = some x → (W.alloc (.cells #[u] t)).cell? (Addr.add ⟨W.heap.size, 0, none⟩ j) = some x := by
  intro j x hx
  rw [show (Addr.add ⟨W.heap.size, 0, none⟩ j) = ⟨W.heap.size, j, none⟩ by cases j <;> simp [Addr.add], World.cell?_alloc_at _ _ _ _ rfl]
  simpa using hx
theorem one_text (x : ByteArray) : ∀ u ∈ [Value.string x], u.oneCell' = true := by
  intro u hu
  simp only [List.mem_cons, List.not_mem_nil, or_false] at hu
  subst hu
  rfl
theorem own_first {w : World} {B g n cap : Nat} {ys : List ByteArray} {z : Value} (h : w.ownsRow B 9 1 (.slice (some ⟨g, 0, none⟩) (n + 1) cap) (n + 1) (ys.map Value.string ++ [z])) (hn : ys.length = n) : ReadsT w (.slice (some ⟨g, 0, none⟩) n cap) ys := by
  have hc : n + 1 ≤ cap := by
    rcases h.2 with ⟨e, _⟩ | ⟨g', cap', cur, e, _, _, hc, _⟩
    · cases e
    · injection e with _ _ e3; omega
  refine ⟨_, cap, by rw [hn], by omega, .inr ⟨g, 0, rfl, fun i hi => ?_⟩⟩
  rw [Nat.zero_add, h.cellAt i (by omega), List.getElem?_append_left (by rw [List.length_map]; exact hi), List.getElem?_map, List.getElem?_eq_getElem hi, List.getD_eq_getElem?_getD, List.getElem?_eq_getElem hi]
  rfl
theorem own_behind {w : World} {B g n cap : Nat} {ys : List ByteArray} {z : Value} (h : w.ownsRow B 9 1 (.slice (some ⟨g, 0, none⟩) (n + 1) cap) (n + 1) (ys.map Value.string ++ [z])) (hn : ys.length = n) : w.cell? ⟨g, n, none⟩ = some z := by
  rw [h.cellAt n (by omega), List.getElem?_append_right (by rw [List.length_map]; omega), List.length_map, hn, Nat.sub_self]
  rfl
theorem reads_news {w : World} {ad : Addr} {n cap : Nat} {xs : List ByteArray} (h : ReadsT w (.slice (some ad) n cap) xs) : ∀ (j : Nat) (u : Value), (xs.map Value.string)[j]? = some u → w.cell? (ad.add j) = some u := by
  intro j u hu
  have hj : j < xs.length := by have := (List.getElem?_eq_some_iff.1 hu).1; simpa using this
  obtain ⟨a', cap', e, _, h0 | ⟨b, off, e4, hc⟩⟩ := h
  · omega
  · injection e with e1 e2 e3
    rw [← e1] at e4
    obtain rfl := Option.some.inj e4
    rw [Addr.add_mid, hc j hj, ← hu, List.getElem?_map, List.getElem?_eq_getElem hj, List.getD_eq_getElem?_getD, List.getElem?_eq_getElem hj]
    rfl
end Go.Proofs.YtfaalpdeabdhcaaGreatDoor.ka

namespace Go.Proofs.YtfaalpdeabdhcaaGreatDoor.kb
open Go.RowKit Go.PlainAid
open Go.Proofs.YtfaalpdeabdhcaaGreatDoor.pl Go.Proofs.YtfaalpdeabdhcaaGreatDoor.pi Go.Proofs.YtfaalpdeabdhcaaGreatDoor.pj Go.Proofs.YtfaalpdeabdhcaaGreatDoor.rf Go.Proofs.YtfaalpdeabdhcaaGreatDoor.ca Go.Proofs.YtfaalpdeabdhcaaGreatDoor.cp Go.Proofs.YtfaalpdeabdhcaaGreatDoor.ka
set_option linter.unusedVariables false

theorem cut_of (x s : ByteArray) (m : Int) (w : World) (hx : x.size = 32) (hsum : Calls Tryz.prog 73 #[.string s] w fun e w' => e = .returned (.string x) ∧ Below w.heap.size w w') :
    Calls Tryz.prog 32 #[.string s, .int .i64 m] w fun e w' => e = .returned (.string (x.extract 0 (wid m))) ∧ Below w.heap.size w w' := by
  have HSUM : Hid (Calls _ _ _ _ _) := hsum
  clear hsum
  by_cases h1 : m < 1
  · have d1 : decide (m < 1) = true := decide_eq_true h1
    rw [show wid m = 32 by unfold wid; rw [if_pos (.inl h1)]]
    clear h1
    go_enter Tryz.func32, Tryz.ntmps32
    go_wp2_with fail
    refine HSUM.out.mono ?_
    rintro e w1 ⟨rfl, hb1⟩
    have HB1 : Hid (Below _ _ _) := hb1
    clear hb1
    go_wp2
    go_ret
    exact ⟨rfl, HB1.out⟩
  · have d1 : decide (m < 1) = false := decide_eq_false h1
    by_cases h2 : 32 < m
    · have d2 : decide (32 < m) = true := decide_eq_true h2
      rw [show wid m = 32 by unfold wid; rw [if_pos (.inr h2)]]
      clear h1 h2
      go_enter Tryz.func32, Tryz.ntmps32
      go_wp2_with fail
      refine HSUM.out.mono ?_
      rintro e w1 ⟨rfl, hb1⟩
      have HB1 : Hid (Below _ _ _) := hb1
      clear hb1
      go_wp2
      go_ret
      exact ⟨rfl, HB1.out⟩
    · have d2 : decide (32 < m) = false := decide_eq_false h2
      obtain ⟨k, rfl⟩ := Int.eq_ofNat_of_zero_le (show 0 ≤ m by omega)
      have hky : k ≤ 32 := by omega
      have hkz : (k : Int) ≤ 32 := by omega
      rw [show wid (k : Int) = k by unfold wid; rw [if_neg (fun h => h.elim h1 h2)]; omega]
      clear h1 h2
      go_enter Tryz.func32, Tryz.ntmps32
      go_wp2_with fail
      refine HSUM.out.mono ?_
      rintro e w1 ⟨rfl, hb1⟩
      have HB1 : Hid (Below _ _ _) := hb1
      clear hb1
      go_wp2
      go_ret
      exact ⟨rfl, HB1.out⟩
theorem width (m : Int) (w : World) : Calls Tryz.prog 114 #[.int .i64 m] w fun e w' => e = .returned (.int .i64 (wid m)) ∧ w' = w := by
  by_cases h1 : m < 1
  · have d1 : decide (m < 1) = true := decide_eq_true h1
    rw [show wid m = 32 by unfold wid; rw [if_pos (.inl h1)]]
    clear h1
    go_enter Tryz.func114, Tryz.ntmps114
    go_wp2
    go_ret
    exact ⟨rfl, rfl⟩
  · have d1 : decide (m < 1) = false := decide_eq_false h1
    by_cases h2 : 32 < m
    · have d2 : decide (32 < m) = true := decide_eq_true h2
      rw [show wid m = 32 by unfold wid; rw [if_pos (.inr h2)]]
      clear h1 h2
      go_enter Tryz.func114, Tryz.ntmps114
      go_wp2
      go_ret
      exact ⟨rfl, rfl⟩
    · have d2 : decide (32 < m) = false := decide_eq_false h2
      obtain ⟨k, rfl⟩ := Int.eq_ofNat_of_zero_le (show 0 ≤ m by omega)
      rw [show wid (k : Int) = k by unfold wid; rw [if_neg (fun h => h.elim h1 h2)]; omega]
      clear h1 h2
      go_enter Tryz.func114, Tryz.ntmps114
      go_wp2
      go_ret
      exact ⟨rfl, rfl⟩
theorem rcut_of (x s : ByteArray) (m : Int) (w : World) (hx : x.size = 32) (hsum : Calls Tryz.prog 113 #[.string s] w fun e w' => e = .returned (.string x) ∧ Below w.heap.size w w') :
    Calls Tryz.prog 82 #[.string s, .int .i64 m] w fun e w' => e = .returned (.string (x.extract 0 (wid m))) ∧ Below w.heap.size w w' := by
  have HSUM : Hid (Calls _ _ _ _ _) := hsum
  have hw := wid_le m
  have W : Hid (∀ w', Calls _ _ _ _ _) := width m
  clear hsum
  generalize wid m = k at *
  have hk : (k : Int) ≤ 32 := by omega
  go_enter Tryz.func82, Tryz.ntmps82
  go_wp2_with fail
  refine HSUM.out.mono ?_
  rintro e w1 ⟨rfl, hb1⟩
  have HB1 : Hid (Below _ _ _) := hb1
  clear hb1
  go_wp2_with fail
  refine (W.out _).mono ?_
  rintro e w2 ⟨rfl, rfl⟩
  go_wp2
  go_ret
  exact ⟨rfl, HB1.out⟩
theorem rCut (s : ByteArray) (m : Int) (w : World) (hs : s.size ≤ 140737488352256) (T : Tab4 w) :
    Calls Tryz.prog 82 #[.string s, .int .i64 m] w fun e w' => e = .returned (.string ((sha s).extract 0 (wid m))) ∧ Below w.heap.size w w' :=
  rcut_of (sha s) s m w (sha_size s) (RSum s w hs T)
def cutS (s : ByteArray) (m : Int) : ByteArray := (sha s).extract 0 (wid m)
def EF (m : Int) : ByteArray := cutS ByteArray.empty m
def LF (m : Int) (d : ByteArray) : ByteArray := cutS ((⟨#[0]⟩ : ByteArray) ++ d) m
def NF (m : Int) (l r : ByteArray) : ByteArray := cutS ((⟨#[1]⟩ : ByteArray) ++ l ++ r) m
theorem cutS_size (s : ByteArray) (m : Int) : (cutS s m).size = wid m := by
  unfold cutS
  rw [ByteArray.size_extract, sha_size]
  have := wid_le m
  omega
theorem sz0 : (⟨#[0]⟩ : ByteArray).size = 1 := rfl
theorem sz1 : (⟨#[1]⟩ : ByteArray).size = 1 := rfl
theorem rEmpty (m : Int) (w : World) (T : Tab4 w) : Calls Tryz.prog 83 #[.int .i64 m] w fun e w' => e = .returned (.string (EF m)) ∧ Below w.heap.size w w' := by
  have C : Hid (Calls _ _ _ _ _) := rCut ByteArray.empty m w (by decide) T
  have HE : Hid ((sha ByteArray.empty).extract 0 (wid m) = EF m) := rfl
  rw [HE.out] at C
  clear T HE
  go_enter Tryz.func83, Tryz.ntmps83
  go_wp2_with fail
  refine C.out.mono ?_
  rintro e w1 ⟨rfl, hb⟩
  have B1 : Hid (Below w.heap.size w w1) := hb
  clear hb
  go_wp2
  go_ret
  exact ⟨rfl, B1.out⟩
theorem rLeaf (m : Int) (d : ByteArray) (hd : d.size ≤ 140737488352000) (w : World) (T : Tab4 w) : Calls Tryz.prog 46 #[.int .i64 m, .string d] w fun e w' => e = .returned (.string (LF m d)) ∧ Below w.heap.size w w' := by
  have C : Hid (Calls _ _ _ _ _) := rCut ((⟨#[0]⟩ : ByteArray) ++ d) m w (by rw [ByteArray.size_append, sz0]; omega) T
  have HE : Hid ((sha ((⟨#[0]⟩ : ByteArray) ++ d)).extract 0 (wid m) = LF m d) := rfl
  rw [HE.out] at C
  have h0 := sz0
  clear T HE
  go_enter Tryz.func46, Tryz.ntmps46
  go_wp2_with fail
  refine C.out.mono ?_
  rintro e w1 ⟨rfl, hb⟩
  have B1 : Hid (Below w.heap.size w w1) := hb
  clear hb
  go_wp2
  go_ret
  exact ⟨rfl, B1.out⟩
theorem rNode (m : Int) (l r : ByteArray) (hd : l.size + r.size ≤ 140737488351232) (w : World) (T : Tab4 w) : Calls Tryz.prog 85 #[.int .i64 m, .string l, .string r] w fun e w' => e = .returned (.string (NF m l r)) ∧ Below w.heap.size w w' := by
  have hz : ((⟨#[1]⟩ : ByteArray) ++ l).size = 1 + l.size := by rw [ByteArray.size_append, sz1]
  have C : Hid (Calls _ _ _ _ _) := rCut ((⟨#[1]⟩ : ByteArray) ++ l ++ r) m w (by rw [ByteArray.size_append, hz]; omega) T
  have HE : Hid ((sha ((⟨#[1]⟩ : ByteArray) ++ l ++ r)).extract 0 (wid m) = NF m l r) := rfl
  rw [HE.out] at C
  have h0 := sz1
  clear T HE
  go_enter Tryz.func85, Tryz.ntmps85
  go_wp2_with fail
  refine C.out.mono ?_
  rintro e w1 ⟨rfl, hb⟩
  have B1 : Hid (Below w.heap.size w w1) := hb
  clear hb
  go_wp2
  go_ret
  exact ⟨rfl, B1.out⟩
end Go.Proofs.YtfaalpdeabdhcaaGreatDoor.kb

namespace Go.Proofs.YtfaalpdeabdhcaaGreatDoor.sj
open Go.Shelf
set_option linter.unusedVariables false
def lays156_ren : Go.Shelf.Ren := ⟨fun | 156 => 93 | 165 => 126 | 166 => 127 | 169 => 128 | 240 => 145 | 241 => 146 | 276 => 152 | 277 => 153 | n => n, fun | 31 => 22 | 9 => 9 | 3 => 3 | 4 => 4 | 0 => 0 | 20 => 20 | 72 => 150 | 76 => 154 | 70 => 148 | 37 => 44 | 75 => 153 | 127 => 175 | 164 => 183 | 5 => 5 | 80 => 93 | n => n, fun | n => n⟩
theorem lays156 : Go.Proofs.Lays.n156 Tryz.prog lays156_ren := {
  mixed := by kernel_rfl
  f156 := Tryz.func93.trans (congrArg some (by kernel_rfl))
  f165 := Tryz.func126.trans (congrArg some (by kernel_rfl))
  f166 := Tryz.func127.trans (congrArg some (by kernel_rfl))
  f169 := Tryz.func128.trans (congrArg some (by kernel_rfl))
  f240 := Tryz.func145.trans (congrArg some (by kernel_rfl))
  f241 := Tryz.func146.trans (congrArg some (by kernel_rfl))
  f276 := Tryz.func152.trans (congrArg some (by kernel_rfl))
  f277 := Tryz.func153.trans (congrArg some (by kernel_rfl))
  t0 := Tryz.underlying0
  a0 := Tryz.isAgg0
  z0 := Tryz.sizeOf0
  v0 := Tryz.zeroValue0
  t3 := Tryz.underlying3
  a3 := Tryz.isAgg3
  z3 := Tryz.sizeOf3
  v3 := Tryz.zeroValue3
  t4 := Tryz.underlying4
  a4 := Tryz.isAgg4
  z4 := Tryz.sizeOf4
  v4 := Tryz.zeroValue4
  t9 := Tryz.underlying9
  a9 := Tryz.isAgg9
  z9 := Tryz.sizeOf9
  v9 := Tryz.zeroValue9
  t20 := Tryz.underlying20
  a20 := Tryz.isAgg20
  z20 := Tryz.sizeOf20
  v20 := Tryz.zeroValue20
  t31 := Tryz.underlying22
  a31 := Tryz.isAgg22
  z31 := Tryz.sizeOf22
  v31 := Tryz.zeroValue22
  t37 := Tryz.underlying44
  a37 := Tryz.isAgg44
  z37 := Tryz.sizeOf44
  v37 := Tryz.zeroValue44
  t70 := Tryz.underlying148
  a70 := Tryz.isAgg148
  z70 := Tryz.sizeOf148
  v70 := Tryz.zeroValue148
  t72 := Tryz.underlying150
  a72 := Tryz.isAgg150
  z72 := Tryz.sizeOf150
  v72 := Tryz.zeroValue150
  t75 := Tryz.underlying153
  a75 := Tryz.isAgg153
  z75 := Tryz.sizeOf153
  v75 := Tryz.zeroValue153
  t76 := Tryz.underlying154
  a76 := Tryz.isAgg154
  z76 := Tryz.sizeOf154
  v76 := Tryz.zeroValue154
  t127 := Tryz.underlying175
  a127 := Tryz.isAgg175
  z127 := Tryz.sizeOf175
  v127 := Tryz.zeroValue175
  t164 := Tryz.underlying183
  a164 := Tryz.isAgg183
  z164 := Tryz.sizeOf183
  v164 := Tryz.zeroValue183 }
theorem extra156 : Builder.Extra Tryz.prog lays156_ren := {
  sizeBuilder := by kernel_rfl
  liesBuilder := by kernel_rfl
  t5 := Tryz.underlying5
  a5 := Tryz.isAgg5
  z5 := Tryz.sizeOf5
  v5 := Tryz.zeroValue5
  infoByte := by kernel_rfl
  cellsByte := by kernel_rfl
  sizeByte := by kernel_rfl
  neB5 := by decide }
end Go.Proofs.YtfaalpdeabdhcaaGreatDoor.sj

namespace Go.Proofs.YtfaalpdeabdhcaaGreatDoor.kc
open Go.RowKit Go.PlainAid
open Go.Proofs.YtfaalpdeabdhcaaGreatDoor.pl Go.Proofs.YtfaalpdeabdhcaaGreatDoor.pi Go.Proofs.YtfaalpdeabdhcaaGreatDoor.pj Go.Proofs.YtfaalpdeabdhcaaGreatDoor.rf Go.Proofs.YtfaalpdeabdhcaaGreatDoor.ca Go.Proofs.YtfaalpdeabdhcaaGreatDoor.cp Go.Proofs.YtfaalpdeabdhcaaGreatDoor.ka Go.Proofs.YtfaalpdeabdhcaaGreatDoor.kb Go.Proofs.YtfaalpdeabdhcaaGreatDoor.sj
set_option linter.unusedVariables false

theorem cutT (s : ByteArray) (m : Int) (w : World) (hs : s.size ≤ 1125899906842624) (T : Tab w) :
    Calls Tryz.prog 32 #[.string s, .int .i64 m] w fun e w' => e = .returned (.string (cutS s m)) ∧ Below w.heap.size w w' :=
  cut_of (sha s) s m w (sha_size s) (Sum s w (by omega) T)
-- the parts, one behind the other
def cat (xs : List ByteArray) : ByteArray := ⟨(Lib.join (xs.map (·.data.toList)) (⟨#[]⟩ : ByteArray).data.toList).toArray⟩
theorem cat_size (xs : List ByteArray) : (Lib.join (xs.map (·.data.toList)) (⟨#[]⟩ : ByteArray).data.toList).length = (cat xs).size := by
  unfold cat
  simp [ByteArray.size]
theorem cat_two (a b : ByteArray) : cat [a, b] = a ++ b := by
  apply ByteArray.ext
  rw [ByteArray.data_append]
  simp [cat, Lib.join, List.intercalate]
theorem cat_three (a b c : ByteArray) : cat [a, b, c] = a ++ b ++ c := by
  apply ByteArray.ext
  rw [ByteArray.data_append, ByteArray.data_append]
  simp [cat, Lib.join, List.intercalate]
theorem joins (xs : List ByteArray) (n b c : Nat) (hn : xs.length = n) (w : World) (hc : ∀ (j : Nat) x, xs[j]? = some x → w.cell? ⟨b, 0 + j, none⟩ = some (.string x)) (hb : b < w.heap.size) (h3 : n ≤ 3) (hcap : n ≤ c) (hs : (cat xs).size ≤ 281474976710656) :
    Calls Tryz.prog 93 #[.slice (some ⟨b, 0, none⟩) n c, .string ⟨#[]⟩] w fun e w' => e = .returned (.string (cat xs)) ∧ Below w.heap.size w w' := by
  subst hn
  exact Any.strings_Join_48 lays156 extra156 b 0 c xs ⟨#[]⟩ w hc hb (by omega) hcap (by rw [cat_size]; omega)
theorem hash (xs : List ByteArray) (n b c : Nat) (hn : xs.length = n) (wd : Int) (w : World) (T : Tab w) (hc : ∀ (j : Nat) x, xs[j]? = some x → w.cell? ⟨b, 0 + j, none⟩ = some (.string x)) (hb : b < w.heap.size) (h3 : n ≤ 3) (hcap : n ≤ c) (hs : (cat xs).size ≤ 281474976710656) :
    Calls Tryz.prog 59 #[.int .i64 wd, .slice (some ⟨b, 0, none⟩) n c] w fun e w' => e = .returned (.string (cutS (cat xs) wd)) ∧ Below w.heap.size w w' := by
  have J : Hid (Calls _ _ _ _ _) := joins xs n b c hn w hc hb h3 hcap hs
  have C : Hid (∀ w, Tab w → Calls _ _ _ _ _) := fun w T => cutT (cat xs) wd w (by omega) T
  have HT : Hid (Tab w) := T
  obtain ⟨s, HS⟩ : ∃ s, Hid (cat xs = s) := ⟨_, rfl⟩
  rw [HS.out] at J C ⊢
  obtain ⟨r, HR⟩ : ∃ r, Hid (cutS s wd = r) := ⟨_, rfl⟩
  rw [HR.out] at C ⊢
  clear hc hs T hn hb
  go_enter Tryz.func59, Tryz.ntmps59
  go_wp2_with fail
  refine J.out.mono ?_
  rintro e w1 ⟨rfl, hb⟩
  have B1 : Hid (Below w.heap.size w w1) := hb
  have T1 : Hid (Tab w1) := HT.out.down hb
  clear hb
  go_wp2_with fail
  refine (C.out _ T1.out).mono ?_
  rintro e w2 ⟨rfl, hb⟩
  have B2 : Hid (Below w.heap.size w w2) := over B1.out hb
  clear hb
  go_wp2
  go_ret
  exact ⟨rfl, B2.out⟩
theorem hash0 (wd : Int) (w : World) (T : Tab w) :
    Calls Tryz.prog 59 #[.int .i64 wd, .slice none 0 0] w fun e w' => e = .returned (.string (EF wd)) ∧ Below w.heap.size w w' := by
  have J : Hid (Calls _ _ _ _ _) := Any.strings_Join_none lays156 extra156 none 0 ⟨#[]⟩ w
  have C : Hid (∀ w, Tab w → Calls _ _ _ _ _) := fun w T => cutT ⟨#[]⟩ wd w (by decide) T
  have HT : Hid (Tab w) := T
  have HE : Hid (cutS ⟨#[]⟩ wd = EF wd) := rfl
  rw [HE.out] at C
  obtain ⟨r, HR⟩ : ∃ r, Hid (EF wd = r) := ⟨_, rfl⟩
  rw [HR.out] at C ⊢
  clear T HE
  go_enter Tryz.func59, Tryz.ntmps59
  go_wp2_with fail
  refine J.out.mono ?_
  rintro e w1 ⟨rfl, hw⟩
  rw [hw]
  clear hw
  go_wp2_with fail
  refine (C.out _ HT.out).mono ?_
  rintro e w2 ⟨rfl, hb⟩
  have B2 : Hid (Below w.heap.size w w2) := hb
  clear hb
  go_wp2
  go_ret
  exact ⟨rfl, B2.out⟩
theorem pEmpty (wd : Int) (w : World) (T : Tab w) :
    Calls Tryz.prog 24 #[.int .i64 wd] w fun e w' => e = .returned (.string (EF wd)) ∧ Below w.heap.size w w' := by
  have C : Hid (Calls _ _ _ _ _) := hash0 wd w T
  obtain ⟨r, HR⟩ : ∃ r, Hid (EF wd = r) := ⟨_, rfl⟩
  rw [HR.out] at C ⊢
  clear T
  go_enter Tryz.func24, Tryz.ntmps24
  go_wp2_with fail
  refine C.out.mono ?_
  rintro e w1 ⟨rfl, hb⟩
  have B1 : Hid (Below w.heap.size w w1) := hb
  clear hb
  go_wp2
  go_ret
  exact ⟨rfl, B1.out⟩
theorem new_cells (w : World) (vs : Array Value) (t : TypeId) (xs : List ByteArray) (h : vs = (xs.map Value.string).toArray) : ∀ (j : Nat) x, xs[j]? = some x → (w.alloc (.cells vs t)).cell? ⟨w.heap.size, 0 + j, none⟩ = some (.string x) := by
  intro j x hx
  subst h
  rw [World.cell?_alloc_at _ _ _ _ rfl, Nat.zero_add]
  simp [hx]
theorem pLeaf (wd : Int) (d : ByteArray) (hd : d.size ≤ 140737488352000) (w : World) (T : Tab w) :
    Calls Tryz.prog 23 #[.int .i64 wd, .string d] w fun e w' => e = .returned (.string (LF wd d)) ∧ Below w.heap.size w w' := by
  have C : Hid (Calls _ _ _ _ _) := hash [⟨#[0]⟩, d] 2 w.heap.size 2 rfl wd (w.alloc (.cells #[.string ⟨#[0]⟩, .string d] 9)) (T.down ((Below.refl _ _).alloc (Nat.le_refl _) _)) (new_cells w _ _ _ rfl) (by simp) (by omega) (by omega) (by rw [cat_two, ByteArray.size_append, sz0]; omega)
  have HE : Hid (cutS (cat [⟨#[0]⟩, d]) wd = LF wd d) := by show _ = _; rw [cat_two]; rfl
  rw [HE.out] at C
  have B0 : Hid (Below w.heap.size w (w.alloc (.cells #[.string ⟨#[0]⟩, .string d] 9))) := (Below.refl _ _).alloc (Nat.le_refl _) _
  obtain ⟨r, HR⟩ : ∃ r, Hid (LF wd d = r) := ⟨_, rfl⟩
  rw [HR.out] at C ⊢
  clear T HE
  go_enter Tryz.func23, Tryz.ntmps23
  go_wp2_with fail
  refine C.out.mono ?_
  rintro e w1 ⟨rfl, hb⟩
  have B1 : Hid (Below w.heap.size w w1) := over B0.out hb
  clear hb
  go_wp2
  go_ret
  exact ⟨rfl, B1.out⟩
theorem pNode (wd : Int) (l r : ByteArray) (hd : l.size + r.size ≤ 281474976702464) (w : World) (T : Tab w) :
    Calls Tryz.prog 26 #[.int .i64 wd, .string l, .string r] w fun e w' => e = .returned (.string (NF wd l r)) ∧ Below w.heap.size w w' := by
  have C : Hid (Calls _ _ _ _ _) := hash [⟨#[1]⟩, l, r] 3 w.heap.size 3 rfl wd (w.alloc (.cells #[.string ⟨#[1]⟩, .string l, .string r] 9)) (T.down ((Below.refl _ _).alloc (Nat.le_refl _) _)) (new_cells w _ _ _ rfl) (by simp) (by omega) (by omega) (by rw [cat_three, ByteArray.size_append, ByteArray.size_append, sz1]; omega)
  have HE : Hid (cutS (cat [⟨#[1]⟩, l, r]) wd = NF wd l r) := by show _ = _; rw [cat_three]; rfl
  rw [HE.out] at C
  have B0 : Hid (Below w.heap.size w (w.alloc (.cells #[.string ⟨#[1]⟩, .string l, .string r] 9))) := (Below.refl _ _).alloc (Nat.le_refl _) _
  obtain ⟨q, HR⟩ : ∃ q, Hid (NF wd l r = q) := ⟨_, rfl⟩
  rw [HR.out] at C ⊢
  clear T HE
  go_enter Tryz.func26, Tryz.ntmps26
  go_wp2_with fail
  refine C.out.mono ?_
  rintro e w1 ⟨rfl, hb⟩
  have B1 : Hid (Below w.heap.size w w1) := over B0.out hb
  clear hb
  go_wp2
  go_ret
  exact ⟨rfl, B1.out⟩
end Go.Proofs.YtfaalpdeabdhcaaGreatDoor.kc

namespace Go.Proofs.YtfaalpdeabdhcaaGreatDoor.gb
open Go.RowKit Go.PlainAid
open Go.Proofs.YtfaalpdeabdhcaaGreatDoor.pl Go.Proofs.YtfaalpdeabdhcaaGreatDoor.pi Go.Proofs.YtfaalpdeabdhcaaGreatDoor.pj Go.Proofs.YtfaalpdeabdhcaaGreatDoor.ca Go.Proofs.YtfaalpdeabdhcaaGreatDoor.cb Go.Proofs.YtfaalpdeabdhcaaGreatDoor.cp Go.Proofs.YtfaalpdeabdhcaaGreatDoor.ka Go.Proofs.YtfaalpdeabdhcaaGreatDoor.kb Go.Proofs.YtfaalpdeabdhcaaGreatDoor.rf Go.Proofs.YtfaalpdeabdhcaaGreatDoor.ga
set_option linter.unusedVariables false

-- the root of leaves; the proofs
def RT (wd : Int) (xs : List ByteArray) : ByteArray := rootP (EF wd) (NF wd) (xs.map (LF wd))
theorem RT_nil (wd : Int) : RT wd [] = EF wd := rootP_nil _ _
theorem RT_one (wd : Int) (x : ByteArray) : RT wd [x] = LF wd x := rootP_one _ _ _
theorem RT_half (wd : Int) {xs : List ByteArray} (h : 2 ≤ xs.length) : RT wd xs = NF wd (RT wd (xs.take (half xs.length))) (RT wd (xs.drop (half xs.length))) := by
  unfold RT
  rw [rootP_half _ _ (l := xs.map (LF wd)) (by rw [List.length_map]; exact h), List.length_map, ← List.map_take, ← List.map_drop]
theorem RT_size (wd : Int) (xs : List ByteArray) : (RT wd xs).size = wid wd := by
  rcases Nat.lt_or_ge xs.length 2 with e | e
  · match xs, e with
    | [], _ => rw [RT_nil]; exact cutS_size _ _
    | [x], _ => rw [RT_one]; exact cutS_size _ _
  · rw [RT_half wd e]; exact cutS_size _ _
theorem RT_le (wd : Int) (xs : List ByteArray) : (RT wd xs).size ≤ 32 := by rw [RT_size]; exact wid_le wd
theorem RT_pos (wd : Int) (xs : List ByteArray) : 1 ≤ (RT wd xs).size := by rw [RT_size]; unfold wid; split <;> omega
def PTn (wd : Int) (i : Nat) (xs : List ByteArray) : List ByteArray := pathP (EF wd) (NF wd) i (xs.map (LF wd))
theorem PTn_one (wd : Int) (i : Nat) {xs : List ByteArray} (h : ¬ 2 ≤ xs.length) : PTn wd i xs = [] := pathP_one _ _ (by rw [List.length_map]; exact h)
theorem PTn_low (wd : Int) {i : Nat} {xs : List ByteArray} (h : 2 ≤ xs.length) (hi : i < half xs.length) : PTn wd i xs = PTn wd i (xs.take (half xs.length)) ++ [RT wd (xs.drop (half xs.length))] := by
  unfold PTn RT
  rw [pathP_low _ _ (l := xs.map (LF wd)) (by rw [List.length_map]; exact h) (by rw [List.length_map]; exact hi), List.length_map, ← List.map_take, ← List.map_drop]
theorem PTn_high (wd : Int) {i : Nat} {xs : List ByteArray} (h : 2 ≤ xs.length) (hi : ¬ i < half xs.length) : PTn wd i xs = PTn wd (i - half xs.length) (xs.drop (half xs.length)) ++ [RT wd (xs.take (half xs.length))] := by
  unfold PTn RT
  rw [pathP_high _ _ (l := xs.map (LF wd)) (by rw [List.length_map]; exact h) (by rw [List.length_map]; exact hi), List.length_map, ← List.map_take, ← List.map_drop]
theorem PTn_len (wd : Int) (i : Nat) (xs : List ByteArray) : (PTn wd i xs).length ≤ xs.length - 1 := pathP_len _ _ _ i _ (List.length_map _)
def QTn (wd : Int) (m : Nat) (xs : List ByteArray) (b : Bool) : List ByteArray := subP (EF wd) (NF wd) m (xs.map (LF wd)) b
theorem QTn_all (wd : Int) {m : Nat} {xs : List ByteArray} (b : Bool) (h : ¬ m < xs.length) : QTn wd m xs b = if b then [] else [RT wd xs] := subP_all _ _ (by rw [List.length_map]; exact h)
theorem QTn_low (wd : Int) {m : Nat} {xs : List ByteArray} (b : Bool) (h : m < xs.length) (h2 : 2 ≤ xs.length) (hm : m ≤ half xs.length) : QTn wd m xs b = QTn wd m (xs.take (half xs.length)) b ++ [RT wd (xs.drop (half xs.length))] := by
  unfold QTn RT
  rw [subP_low _ _ (l := xs.map (LF wd)) (by rw [List.length_map]; exact h) (by rw [List.length_map]; exact h2) (by rw [List.length_map]; exact hm), List.length_map, ← List.map_take, ← List.map_drop]
theorem QTn_high (wd : Int) {m : Nat} {xs : List ByteArray} (b : Bool) (h : m < xs.length) (h2 : 2 ≤ xs.length) (hm : ¬ m ≤ half xs.length) : QTn wd m xs b = QTn wd (m - half xs.length) (xs.drop (half xs.length)) false ++ [RT wd (xs.take (half xs.length))] := by
  unfold QTn RT
  rw [subP_high _ _ (l := xs.map (LF wd)) (by rw [List.length_map]; exact h) (by rw [List.length_map]; exact h2) (by rw [List.length_map]; exact hm), List.length_map, ← List.map_take, ← List.map_drop]
theorem QTn_len (wd : Int) (m : Nat) (xs : List ByteArray) (b : Bool) (h : 1 ≤ xs.length) : (QTn wd m xs b).length ≤ xs.length := subP_len _ _ _ m _ b (List.length_map _) h
theorem RT_take (wd : Int) {xs : List ByteArray} {m : Nat} (h2 : 2 ≤ xs.length) (h : half xs.length < m) (hm : m < xs.length) : RT wd (xs.take m) = NF wd (RT wd (xs.take (half xs.length))) (RT wd ((xs.drop (half xs.length)).take (m - half xs.length))) := by
  have := root_take (EF wd) (NF wd) (l := xs.map (LF wd)) (m := m) (by rw [List.length_map]; exact h2) (by rw [List.length_map]; exact h) (by rw [List.length_map]; exact hm)
  rw [List.length_map] at this
  unfold RT
  rw [List.map_take, this, List.map_take, List.map_take, List.map_drop]
-- what the four answer
def PT (wd i : Int) (xs : List ByteArray) : List ByteArray := if 0 ≤ i ∧ i < xs.length then PTn wd i.toNat xs else []
def PE (i : Int) (xs : List ByteArray) : Int := if 0 ≤ i ∧ i < xs.length then 0 else 81
def QT (wd m : Int) (xs : List ByteArray) : List ByteArray := if 1 ≤ m ∧ m ≤ xs.length then QTn wd m.toNat xs true else []
def QE (m : Int) (xs : List ByteArray) : Int := if 0 ≤ m ∧ m ≤ xs.length then 0 else 80
theorem PT_len (wd i : Int) (xs : List ByteArray) : (PT wd i xs).length ≤ xs.length := by
  unfold PT
  split
  · have := PTn_len wd i.toNat xs; omega
  · simp
theorem QT_len (wd m : Int) (xs : List ByteArray) : (QT wd m xs).length ≤ xs.length := by
  unfold QT
  split
  · exact QTn_len wd m.toNat xs true (by omega)
  · simp
def NT (wd L I : Int) (xs : List ByteArray) : ByteArray := if okA L I ∧ (I + 1) * 2 ^ L.toNat ≤ xs.length then RT wd ((xs.drop (I * 2 ^ L.toNat).toNat).take (2 ^ L.toNat)) else ByteArray.empty
def NE (L I : Int) (xs : List ByteArray) : Int := if okA L I then (if (I + 1) * 2 ^ L.toNat ≤ xs.length then 0 else 80) else 50
-- leaves that a machine can hold
structure Fits (xs : List ByteArray) : Prop where
  each : ∀ x ∈ xs, x.size ≤ 140737488352000
  many : xs.length * 16 ≤ 140737488351232
theorem Fits.take {xs : List ByteArray} (h : Fits xs) (k : Nat) : Fits (xs.take k) := ⟨fun x hx => h.each x (List.mem_of_mem_take hx), by have := h.many; rw [List.length_take]; omega⟩
theorem Fits.drop {xs : List ByteArray} (h : Fits xs) (k : Nat) : Fits (xs.drop k) := ⟨fun x hx => h.each x (List.mem_of_mem_drop hx), by have := h.many; rw [List.length_drop]; omega⟩
-- a list of texts and an error
def Listed (w w' : World) (e : Ending) (ts : List ByteArray) (c : Int) : Prop := ∃ u, e = .returned (.tuple #[u, .int .i64 c]) ∧ w'.ownsRow w.heap.size 9 1 u ts.length (ts.map Value.string)
end Go.Proofs.YtfaalpdeabdhcaaGreatDoor.gb

namespace Go.Proofs.YtfaalpdeabdhcaaGreatDoor.gr
open Go.RowKit Go.PlainAid
open Go.Proofs.YtfaalpdeabdhcaaGreatDoor.cp Go.Proofs.YtfaalpdeabdhcaaGreatDoor.ka Go.Proofs.YtfaalpdeabdhcaaGreatDoor.gb
set_option linter.unusedVariables false

-- what mth.Root promises (T: what it asks of the world)
def RootC (T : World → Prop) : Prop := ∀ (wd : Int) (v : Value) (xs : List ByteArray) (w : World), i64 wd → T w → ReadsT w v xs → Fits xs → Calls Tryz.prog 8 #[.int .i64 wd, v] w fun e w' => e = .returned (.string (RT wd xs)) ∧ Below w.heap.size w w'
end Go.Proofs.YtfaalpdeabdhcaaGreatDoor.gr

namespace Go.Proofs.YtfaalpdeabdhcaaGreatDoor.ma
open Go.RowKit Go.PlainAid
open Go.Proofs.YtfaalpdeabdhcaaGreatDoor.ca Go.Proofs.YtfaalpdeabdhcaaGreatDoor.cb Go.Proofs.YtfaalpdeabdhcaaGreatDoor.cp Go.Proofs.YtfaalpdeabdhcaaGreatDoor.ka Go.Proofs.YtfaalpdeabdhcaaGreatDoor.ga Go.Proofs.YtfaalpdeabdhcaaGreatDoor.gb Go.Proofs.YtfaalpdeabdhcaaGreatDoor.xa Go.Proofs.YtfaalpdeabdhcaaGreatDoor.xb
set_option linter.unusedVariables false

theorem len_int (x : Int) (w : World) (h0 : 0 ≤ x) (h1 : x ≤ 9223372036854775807) :
    Calls Tryz.prog 94 #[.int .u64 x] w fun e w' => e = .returned (.int .i64 (Lib.bitLen x.toNat)) ∧ w' = w := by
  have C : Hid (Calls _ _ _ _ _) := len_any x w h0 (by omega)
  obtain ⟨b, HB⟩ : ∃ b, Hid (Lib.bitLen x.toNat = b) := ⟨_, rfl⟩
  rw [HB.out] at C ⊢
  go_enter Tryz.func94, Tryz.ntmps94
  go_wp2_with fail
  refine C.out.mono ?_
  rintro e w1 ⟨rfl, hw⟩
  subst hw
  go_wp2
  go_ret
  exact ⟨rfl, rfl⟩
theorem half_len {n : Nat} (h : 2 ≤ n) (hn : n ≤ 4611686018427387904) : ∃ l, Lib.bitLen (n - 1) = l + 1 ∧ half n = 2 ^ l ∧ l ≤ 62 := by
  obtain ⟨g1, g2⟩ := len_spec (n - 1) (by omega)
  obtain ⟨g3, g4⟩ := g2 (by omega)
  have g5 := len_le63 (n - 1) (by omega)
  obtain ⟨l, hl⟩ : ∃ l, Lib.bitLen (n - 1) = l + 1 := ⟨Lib.bitLen (n - 1) - 1, by omega⟩
  rw [hl] at g1 g3 g5
  rw [Nat.add_sub_cancel] at g3
  exact ⟨l, hl, half_eq (by omega) (by omega), by omega⟩
-- the program's split
theorem msplit (n : Nat) (h : 2 ≤ n) (hn : n ≤ 4611686018427387904) (w : World) :
    Calls Tryz.prog 60 #[.int .i64 n] w fun e w' => e = .returned (.int .i64 (half n : Nat)) ∧ w' = w := by
  obtain ⟨l, hl, he, h62⟩ := half_len h hn
  have hlt := (half_lt h).2.1
  have C : Hid (∀ w, Calls _ _ _ _ _) := fun w => len_int ((n : Int) - 1) w (by omega) (by omega)
  rw [show ((n : Int) - 1).toNat = n - 1 by omega, hl] at C
  obtain ⟨t, HT⟩ : ∃ t : Nat, Hid (2 ^ l = t) := ⟨_, rfl⟩
  have hT : (2 : Int) ^ l = (t : Int) := by rw [cast_pow, HT.out]
  rw [he, HT.out] at hlt ⊢
  have hw1 : ((l + 1 : Nat) : Int) = (l : Int) + 1 := by omega
  have hw2 : IntKind.u64.wrap (l : Int) = l := u64_is l (by omega)
  have hw3 : min (l : Int).toNat 64 = l := by omega
  have hw4 : min l 64 = l := by omega
  have hw5 : IntKind.i64.wrap (t : Int) = t := wrap_is t (by omega)
  rw [hw1] at C
  clear hl he
  go_enter Tryz.func60, Tryz.ntmps60
  go_wp2_with fail
  refine (C.out _).mono ?_
  rintro e w1 ⟨rfl, hw⟩
  subst hw
  go_wp2
  go_ret
  exact ⟨rfl, rfl⟩
-- a list without room behind it
theorem tightT {w : World} {a : Option Addr} {n cap : Nat} {xs : List ByteArray} (h : ReadsT w (.slice a n cap) xs) : ReadsT w (.slice a n n) xs := by
  obtain ⟨a', cap', e, hc, hh⟩ := h
  injection e with e1 e2 e3
  subst e1 e2
  exact ⟨_, _, rfl, Nat.le_refl _, hh⟩
theorem parts (b off n cap : Nat) (h : 2 ≤ n) (hn : n ≤ 4611686018427387904) (hc : n ≤ cap) (w : World) :
    Calls Tryz.prog 25 #[.slice (some ⟨b, off, none⟩) n cap] w fun e w' => e = .returned (.tuple #[.slice (some ⟨b, off, none⟩) (half n) (half n), .slice (some ⟨b, off + half n, none⟩) (n - half n) (n - half n)]) ∧ ∃ m, w' = w.drewN m := by
  have C : Hid (∀ w, Calls _ _ _ _ _) := fun w => msplit n h hn w
  have hh := half_lt h
  obtain ⟨t, HT⟩ : ∃ t : Nat, Hid (half n = t) := ⟨_, rfl⟩
  rw [HT.out] at C hh ⊢
  obtain ⟨h1, h2, h3⟩ := hh
  have g1 : (t : Int) ≤ cap := by omega
  have g2 : (t : Int) ≤ n := by omega
  have g3 : (n : Int) ≤ cap := by omega
  have ent : ((n - t : Nat) : Int) = (n : Int) - t := by omega
  go_enter Tryz.func25, Tryz.ntmps25
  go_wp2_with fail
  refine (C.out _).mono ?_
  rintro e w1 ⟨rfl, hw⟩
  subst hw
  go_wp2_with fail
  go_quiet (fail)
  go_wp2
  go_ret2
  exact ⟨rfl, _, rfl⟩
end Go.Proofs.YtfaalpdeabdhcaaGreatDoor.ma

namespace Go.Proofs.YtfaalpdeabdhcaaGreatDoor.mb
open Go.RowKit Go.PlainAid
open Go.Proofs.YtfaalpdeabdhcaaGreatDoor.pl Go.Proofs.YtfaalpdeabdhcaaGreatDoor.pi Go.Proofs.YtfaalpdeabdhcaaGreatDoor.pj Go.Proofs.YtfaalpdeabdhcaaGreatDoor.ca Go.Proofs.YtfaalpdeabdhcaaGreatDoor.cb Go.Proofs.YtfaalpdeabdhcaaGreatDoor.cp Go.Proofs.YtfaalpdeabdhcaaGreatDoor.ka Go.Proofs.YtfaalpdeabdhcaaGreatDoor.kb Go.Proofs.YtfaalpdeabdhcaaGreatDoor.kc Go.Proofs.YtfaalpdeabdhcaaGreatDoor.rf Go.Proofs.YtfaalpdeabdhcaaGreatDoor.ga Go.Proofs.YtfaalpdeabdhcaaGreatDoor.gb Go.Proofs.YtfaalpdeabdhcaaGreatDoor.gr Go.Proofs.YtfaalpdeabdhcaaGreatDoor.ma
set_option linter.unusedVariables false

set_option maxHeartbeats 3200000 in
set_option maxRecDepth 100000 in
theorem root (wd : Int) (n : Nat) : ∀ (xs : List ByteArray) (v : Value) (w : World), xs.length = n → Tab w → ReadsT w v xs → Fits xs →
    Calls Tryz.prog 8 #[.int .i64 wd, v] w fun e w' => e = .returned (.string (RT wd xs)) ∧ Below w.heap.size w w' := by
  induction n using Nat.strongRecOn with
  | ind n ih =>
    intro xs v w hn hT hR hx
    have HT : Hid (Tab w) := hT
    have HRD : Hid (ReadsT w v xs) := hR
    have HX : Hid (Fits xs) := hx
    have HN : Hid (xs.length = n) := hn
    have hnm : n ≤ 4611686018427387904 := by have := hx.many; omega
    have IH : Hid (∀ (m : Nat), m < n → ∀ (xs : List ByteArray) (v : Value) (w : World), xs.length = m → Tab w → ReadsT w v xs → Fits xs →
      Calls Tryz.prog 8 #[.int .i64 wd, v] w fun e w' => e = .returned (.string (RT wd xs)) ∧ Below w.heap.size w w') := ih
    obtain ⟨a, cap, rfl, hcap, hh⟩ := hR
    rw [HN.out] at hcap hh HRD ⊢
    have HH : Hid (n = 0 ∨ ∃ b off, a = some ⟨b, off, none⟩ ∧ ∀ i, i < n → w.cell? ⟨b, off + i, none⟩ = some (.string (xs.getD i ByteArray.empty))) := hh
    obtain ⟨R, HRR⟩ : ∃ R, Hid (RT wd xs = R) := ⟨_, rfl⟩
    rw [HRR.out]
    clear ih hn hT hx hh
    by_cases h0 : n = 0
    · have EC : Hid (∀ w, Tab w → Calls _ _ _ _ _) := fun w hw => pEmpty wd w hw
      have q0 : ((n : Int) == 0) = true := by rw [beq_iff_eq]; omega
      have HE : Hid (EF wd = R) := by
        show _ = _
        have : xs = [] := List.length_eq_zero_iff.1 (HN.out.trans h0)
        rw [← HRR.out, this, RT_nil]
      rw [HE.out] at EC
      clear h0
      go_enter Tryz.func8, Tryz.ntmps8
      go_wp2_with fail
      refine (EC.out _ HT.out).mono ?_
      rintro e w1 ⟨rfl, hb⟩
      have B1 : Hid (Below w.heap.size w w1) := hb
      clear hb
      go_wp2
      go_ret
      exact ⟨rfl, B1.out⟩
    · obtain ⟨b, off, rfl, hh⟩ : ∃ b off, a = some ⟨b, off, none⟩ ∧ ∀ i, i < n → w.cell? ⟨b, off + i, none⟩ = some (.string (xs.getD i ByteArray.empty)) := by
        rcases HH.out with h | h
        · exact absurd h h0
        · exact h
      have q0 : ((n : Int) == 0) = false := by rw [beq_eq_false_iff_ne]; omega
      by_cases h1 : n = 1
      · have q1 : ((n : Int) == 1) = true := by rw [beq_iff_eq]; omega
        have c0 := hh 0 (by omega)
        rw [Nat.add_zero] at c0
        have hn1 : (0 : Int) < n := by omega
        obtain ⟨x, hx⟩ := List.length_eq_one_iff.1 (HN.out.trans h1)
        have hxs : x.size ≤ 140737488352000 := HX.out.each x (by rw [hx]; simp)
        rw [hx] at c0
        have c1 : w.cell? ⟨b, off, none⟩ = some (.string x) := c0
        have LC : Hid (∀ w, Tab w → Calls _ _ _ _ _) := fun w hw => pLeaf wd x hxs w hw
        have HE : Hid (LF wd x = R) := by
          show _ = _
          rw [← HRR.out, hx, RT_one]
        rw [HE.out] at LC
        clear h0 h1 hh HH c0 hx hxs
        go_enter Tryz.func8, Tryz.ntmps8
        go_wp2_with fail
        refine (LC.out _ HT.out).mono ?_
        rintro e w1 ⟨rfl, hb⟩
        have B1 : Hid (Below w.heap.size w w1) := hb
        clear hb
        go_wp2
        go_ret
        exact ⟨rfl, B1.out⟩
      · have q1 : ((n : Int) == 1) = false := by rw [beq_eq_false_iff_ne]; omega
        have h2n : 2 ≤ n := by omega
        have SC : Hid (∀ w, Calls _ _ _ _ _) := fun w => parts b off n cap h2n hnm hcap w
        obtain ⟨t, HTT⟩ : ∃ t, Hid (half n = t) := ⟨_, rfl⟩
        rw [HTT.out] at SC
        have hh2 := half_lt h2n
        rw [HTT.out] at hh2
        obtain ⟨ht1, htn, _⟩ := hh2
        have htx : t ≤ xs.length := by rw [HN.out]; omega
        obtain ⟨r1, HR1⟩ : ∃ r, Hid (RT wd (xs.take t) = r) := ⟨_, rfl⟩
        obtain ⟨r2, HR2⟩ : ∃ r, Hid (RT wd (xs.drop t) = r) := ⟨_, rfl⟩
        have HE : Hid (NF wd r1 r2 = R) := by
          show _ = _
          rw [← HRR.out, RT_half wd (by rw [HN.out]; exact h2n), HN.out, HTT.out, HR1.out, HR2.out]
        have R1 : Hid (ReadsT w (.slice (some ⟨b, off, none⟩) t t) (xs.take t)) := tightT (HRD.out.front htx)
        have R2 : Hid (ReadsT w (.slice (some ⟨b, off + t, none⟩) (n - t) (n - t)) (xs.drop t)) := tightT (HRD.out.back htx)
        have L1 : Hid ((xs.take t).length = t) := by show _ = _; rw [List.length_take]; omega
        have L2 : Hid ((xs.drop t).length = n - t) := by show _ = _; rw [List.length_drop, HN.out]
        have Z1 : r1.size ≤ 32 := by rw [← HR1.out]; exact RT_le _ _
        have Z2 : r2.size ≤ 32 := by rw [← HR2.out]; exact RT_le _ _
        have C1 : Hid (∀ w', Tab w' → ReadsT w' (.slice (some ⟨b, off, none⟩) t t) (xs.take t) → Calls _ _ _ _ _) := fun w' h h' => IH.out t htn (xs.take t) _ w' L1.out h h' (HX.out.take t)
        have C2 : Hid (∀ w', Tab w' → ReadsT w' (.slice (some ⟨b, off + t, none⟩) (n - t) (n - t)) (xs.drop t) → Calls _ _ _ _ _) := fun w' h h' => IH.out (n - t) (by omega) (xs.drop t) _ w' L2.out h h' (HX.out.drop t)
        have NC : Hid (∀ w', Tab w' → Calls _ _ _ _ _) := fun w' h => pNode wd r1 r2 (by omega) w' h
        rw [HR1.out] at C1
        rw [HR2.out] at C2
        rw [HE.out] at NC
        clear Z1 Z2 h0 h1 hh HH
        go_enter Tryz.func8, Tryz.ntmps8
        go_wp2_with fail
        refine (SC.out _).mono ?_
        rintro e w0 ⟨rfl, q, hw0⟩
        have B0 : Hid (Below w.heap.size w w0) := by rw [hw0]; exact below_dN (Below.refl _ _) q
        have T0 : Hid (Tab w0) := HT.out.down B0.out
        have R10 : Hid (ReadsT w0 (.slice (some ⟨b, off, none⟩) t t) (xs.take t)) := R1.out.later B0.out
        clear hw0
        go_wp2_with fail
        refine (C1.out _ T0.out R10.out).mono ?_
        rintro e w1 ⟨rfl, hb⟩
        have B1 : Hid (Below w.heap.size w w1) := over B0.out hb
        have T1 : Hid (Tab w1) := HT.out.down B1.out
        have R21 : Hid (ReadsT w1 (.slice (some ⟨b, off + t, none⟩) (n - t) (n - t)) (xs.drop t)) := R2.out.later B1.out
        clear hb
        go_wp2_with fail
        refine (C2.out _ T1.out R21.out).mono ?_
        rintro e w2 ⟨rfl, hb⟩
        have B2 : Hid (Below w.heap.size w w2) := over B1.out hb
        have T2 : Hid (Tab w2) := T1.out.down hb
        clear hb
        go_wp2_with fail
        refine (NC.out _ T2.out).mono ?_
        rintro e w3 ⟨rfl, hb⟩
        have B3 : Hid (Below w.heap.size w w3) := over B2.out hb
        clear hb
        go_wp2
        go_ret
        exact ⟨rfl, B3.out⟩
theorem rootC : RootC Tab := fun wd v xs w _ t h f => root wd xs.length xs v w rfl t h f
end Go.Proofs.YtfaalpdeabdhcaaGreatDoor.mb

namespace Go.Proofs.YtfaalpdeabdhcaaGreatDoor.qa
open Go.RowKit Go.PlainAid
open Go.Proofs.YtfaalpdeabdhcaaGreatDoor.ca Go.Proofs.YtfaalpdeabdhcaaGreatDoor.cp Go.Proofs.YtfaalpdeabdhcaaGreatDoor.ka Go.Proofs.YtfaalpdeabdhcaaGreatDoor.kp
set_option linter.unusedVariables false

-- a list of texts in old memory
def Old (base : Nat) (w : World) (v : Value) (l : List ByteArray) : Prop :=
  ∃ a cap, v = .slice a l.length cap ∧ l.length ≤ cap ∧ (l.length = 0 ∨ ∃ g off, a = some ⟨g, off, none⟩ ∧ g < base ∧ ∀ i, i < l.length → w.cell? ⟨g, off + i, none⟩ = some (.string (l.getD i ByteArray.empty)))
theorem Old.keep {base : Nat} {w w' : World} {v : Value} {l : List ByteArray} (h : Old base w v l) {G : Nat → Prop} (k : Kp G w w') (hg : ∀ b, G b → base ≤ b) : Old base w' v l := by
  obtain ⟨a, cap, rfl, hc, h0 | ⟨g, off, rfl, hl, hh⟩⟩ := h
  · exact ⟨a, cap, rfl, hc, .inl h0⟩
  · exact ⟨_, cap, rfl, hc, .inr ⟨g, off, rfl, hl, fun i hi => k.cell (hh i hi) (fun e => by have := hg _ e; omega)⟩⟩
theorem Old.of {w : World} {v : Value} {l : List ByteArray} (h : ReadsT w v l) : Old w.heap.size w v l := by
  obtain ⟨a, cap, rfl, hc, h0 | ⟨g, off, rfl, hh⟩⟩ := h
  · exact ⟨a, cap, rfl, hc, .inl h0⟩
  · by_cases h0 : l.length = 0
    · exact ⟨_, cap, rfl, hc, .inl h0⟩
    · exact ⟨_, cap, rfl, hc, .inr ⟨g, off, rfl, World.block_lt_of_cell? _ _ (hh 0 (by omega)), hh⟩⟩
-- a pile
structure Pile (base pb : Nat) (l : List ByteArray) (w : World) : Prop where
  new : base ≤ pb
  box : ∃ v, w.heap[pb]? = some (.cells #[v] 90 (0, 0)) ∧ Old base w v l
theorem Pile.keep {base pb : Nat} {l : List ByteArray} {w w' : World} (h : Pile base pb l w) {G : Nat → Prop} (k : Kp G w w') (hg : ∀ b, G b → base ≤ b) (hp : ¬ G pb) : Pile base pb l w' := by
  obtain ⟨v, hv, ho⟩ := h.box
  exact ⟨h.new, v, (k.block _ (Array.getElem?_eq_some_iff.1 hv).1 hp).trans hv, ho.keep k hg⟩
theorem Pile.lt {base pb : Nat} {l : List ByteArray} {w : World} (h : Pile base pb l w) : pb < w.heap.size := by
  obtain ⟨v, hv, _⟩ := h.box
  exact (Array.getElem?_eq_some_iff.1 hv).1
theorem nextC (base pb : Nat) (h : ByteArray) (t : List ByteArray) (w : World) (hP : Pile base pb (h :: t) w) :
    Calls Tryz.prog 69 #[.pointer (some ⟨pb, 0, none⟩)] w fun e w' => e = .returned (.string h) ∧ Pile base pb t w' ∧ Kp (fun b => b = pb) w w' := by
  obtain ⟨hnew, v, hv0, a, cap, rfl, hcap, hh⟩ := hP
  rw [List.length_cons] at hv0 hcap hh
  obtain ⟨g, off, rfl, hg, hc⟩ := hh.resolve_left (by omega)
  have c0 : w.cell? ⟨pb, 0, none⟩ = some (.slice (some ⟨g, off, none⟩) (t.length + 1) cap) := cell_of_row _ _ 0 _ _ _ hv0
  have f0 := frozen_of_row _ _ 0 _ _ hv0
  have x0 := hc 0 (by omega)
  rw [Nat.add_zero] at x0
  have x1 : w.cell? ⟨g, off, none⟩ = some (.string h) := x0
  have HV : Hid (w.heap[pb]? = _) := hv0
  have HC : Hid (∀ i, i < t.length → w.cell? ⟨g, off + 1 + i, none⟩ = some (.string (t.getD i ByteArray.empty))) := fun i hi => by
    have := hc (i + 1) (by omega)
    rw [show off + 1 + i = off + (i + 1) by omega, this]
    rfl
  obtain ⟨n, HN⟩ : ∃ n, Hid (t.length = n) := ⟨_, rfl⟩
  have HP : Hid (∀ (aa : Option Addr), (t.length = 0 ∨ aa = some ⟨g, off + 1, none⟩) → Pile base pb t (w.setCell ⟨pb, 0, none⟩ (.slice aa t.length (cap - 1)))) := by
    intro aa haa
    have hk : Kp (fun q => q = pb) w (w.setCell ⟨pb, 0, none⟩ (.slice aa t.length (cap - 1))) := Kp.setCell _ _ _ _ rfl
    refine ⟨hnew, _, heap_setCell_same _ _ 0 _ _ _ HV.out, aa, cap - 1, rfl, by omega, ?_⟩
    rcases haa with h | h
    · exact .inl h
    · exact .inr ⟨g, off + 1, h, hg, fun i hi => hk.cell (HC.out i hi) (fun e => by omega)⟩
  have HK : Hid (∀ v, Kp (fun b => b = pb) w (w.setCell ⟨pb, 0, none⟩ v)) := fun v => Kp.setCell _ _ _ _ rfl
  have hgp : g ≠ pb := by omega
  have hn1 : ((n : Int) + 1) - 1 = n := by omega
  rw [HN.out] at c0 HP hcap
  clear hv0 hh hc x0 hnew hg
  by_cases hc1 : cap = 1
  · subst hc1
    obtain rfl : n = 0 := by omega
    go_enter Tryz.func69, Tryz.ntmps69
    go_wp2
    go_ret
    exact ⟨rfl, HP.out _ (.inl (by first | rfl | trivial)), HK.out _⟩
  · go_enter Tryz.func69, Tryz.ntmps69
    go_wp2
    go_ret
    exact ⟨rfl, by simpa using HP.out _ (.inr rfl), by simpa using HK.out _⟩
end Go.Proofs.YtfaalpdeabdhcaaGreatDoor.qa

namespace Go.Proofs.YtfaalpdeabdhcaaGreatDoor.qb
open Go.RowKit Go.PlainAid
open Go.Proofs.YtfaalpdeabdhcaaGreatDoor.pl Go.Proofs.YtfaalpdeabdhcaaGreatDoor.pi Go.Proofs.YtfaalpdeabdhcaaGreatDoor.pj Go.Proofs.YtfaalpdeabdhcaaGreatDoor.rf Go.Proofs.YtfaalpdeabdhcaaGreatDoor.ca Go.Proofs.YtfaalpdeabdhcaaGreatDoor.cb Go.Proofs.YtfaalpdeabdhcaaGreatDoor.cp Go.Proofs.YtfaalpdeabdhcaaGreatDoor.ga Go.Proofs.YtfaalpdeabdhcaaGreatDoor.aa Go.Proofs.YtfaalpdeabdhcaaGreatDoor.ba Go.Proofs.YtfaalpdeabdhcaaGreatDoor.bb Go.Proofs.YtfaalpdeabdhcaaGreatDoor.ka Go.Proofs.YtfaalpdeabdhcaaGreatDoor.kb Go.Proofs.YtfaalpdeabdhcaaGreatDoor.kc Go.Proofs.YtfaalpdeabdhcaaGreatDoor.kp Go.Proofs.YtfaalpdeabdhcaaGreatDoor.lk Go.Proofs.YtfaalpdeabdhcaaGreatDoor.wt Go.Proofs.YtfaalpdeabdhcaaGreatDoor.qa
set_option linter.unusedVariables false

-- the steps that are claimed, for proved ones
def fl (lk : Nat → Nat → Nat) (a b : Nat) : Nat := if lk a b = 0 then 1 else if lk a b = 1 then 0 else lk a b
theorem fl_two {lk : Nat → Nat → Nat} {a b : Nat} (h : 2 ≤ lk a b) : fl lk a b = lk a b := by unfold fl; rw [if_neg (by omega), if_neg (by omega)]
-- what is reckoned: the shape's mind, what is claimed, what is proved
def WS (wd : Int) (lk : Nat → Nat → Nat) (cur : Nat → Nat) : Wy (Nat × List ByteArray × List ByteArray) ByteArray where
  lk := fun x a b => (lk a b, if lk a b < 2 then cur b else x.1, x.2.1, x.2.2)
  hv := fun x a b s => if s = 0 then (x.2.1.headD ByteArray.empty, x.1, x.2.1.drop 1, x.2.2) else (x.2.2.headD ByteArray.empty, x.1, x.2.1, x.2.2.drop 1)
  jn := NF wd
theorem go_state (wd : Int) {lk : Nat → Nat → Nat} {cur : Nat → Nat} (hw : ∀ {a b}, a < b → 2 ≤ lk a b → 2 ≤ b - a) (hf : ∀ a b, lk a b ≤ 3) (ht : ∀ {a b}, lk a b = 3 → ∀ p, cur p = cur 0) (n : Nat) :
    ∀ a b c p, b - a = n → a < b → (go (WS wd lk cur) (cur a, c, p) a b).2 = (cur b, c.drop (WL (fl lk) a b).length, p.drop (WL lk a b).length) := by
  induction n using Nat.strongRecOn with
  | ind n ih =>
    intro a b c p hn hab
    have h3 := hf a b
    rcases (show lk a b = 0 ∨ lk a b = 1 ∨ lk a b = 2 ∨ lk a b = 3 by omega) with h | h | h | h
    · have e : (WS wd lk cur).lk (cur a, c, p) a b = (0, cur b, c, p) := by show (lk a b, _) = _; rw [h]; rfl
      rw [go_stop (by rw [e]; show 0 < 2; omega), e, WL_pass h, WL_take (lk := fl lk) (by unfold fl; rw [if_pos h])]
      rfl
    · have e : (WS wd lk cur).lk (cur a, c, p) a b = (1, cur b, c, p) := by show (lk a b, _) = _; rw [h]; rfl
      rw [go_stop (by rw [e]; show 1 < 2; omega), e, WL_take h, WL_pass (lk := fl lk) (by unfold fl; rw [if_neg (by omega), if_pos h])]
      rfl
    · have h2 := hw hab (by omega)
      have hh := half_lt h2
      have e : (WS wd lk cur).lk (cur a, c, p) a b = (2, cur a, c, p) := by show (lk a b, _) = _; rw [h]; rfl
      rw [go_left (by rw [e]) h2, e]
      simp only
      rw [ih (half (b - a)) (by omega) a (a + half (b - a)) c p (by omega) (by omega), ih (b - a - half (b - a)) (by omega) (a + half (b - a)) b _ _ (by omega) (by omega), WL_left h h2, WL_left (lk := fl lk) (by rw [fl_two (by omega)]; exact h) h2, List.length_append, List.length_append, List.drop_drop, List.drop_drop]
    · have h2 := hw hab (by omega)
      have hh := half_lt h2
      have hc := ht h
      have e : (WS wd lk cur).lk (cur a, c, p) a b = (3, cur (a + half (b - a)), c, p) := by show (lk a b, _) = _; rw [h]; show (3, cur a, c, p) = _; rw [hc a, hc (a + half (b - a))]
      rw [go_right (by rw [e]; exact Nat.le_refl _) h2, e]
      simp only
      rw [ih (b - a - half (b - a)) (by omega) (a + half (b - a)) b c p (by omega) (by omega), show cur b = cur a by rw [hc a, hc b], ih (half (b - a)) (by omega) a (a + half (b - a)) _ _ (by omega) (by omega), WL_right (lk := lk) (by omega) h2, WL_right (lk := fl lk) (by rw [fl_two (by omega)]; omega) h2, List.length_append, List.length_append, List.drop_drop, List.drop_drop, show cur (a + half (b - a)) = cur a by rw [hc a, hc (a + half (b - a))]]
-- all texts have the width's bytes
def Wide (wd : Int) (l : List ByteArray) : Prop := ∀ h ∈ l, h.size = wid wd
theorem Wide.drop {wd : Int} {l : List ByteArray} (h : Wide wd l) (k : Nat) : Wide wd (l.drop k) := fun x hx => h x (List.mem_of_mem_drop hx)
theorem Wide.head {wd : Int} {l : List ByteArray} (h : Wide wd l) (h1 : 1 ≤ l.length) : (l.headD ByteArray.empty).size = wid wd := by
  cases l with
  | nil => simp at h1
  | cons x t => exact h x (by simp)
theorem wid_le (wd : Int) : wid wd ≤ 32 := by unfold wid; split <;> omega
def PS (wd : Int) (lk : Nat → Nat → Nat) (cur : Nat → Nat) (x : Nat × List ByteArray × List ByteArray) (a b : Nat) : Prop :=
  x.1 = cur a ∧ a < b ∧ b ≤ 4611686018427387904 ∧ (WL (fl lk) a b).length ≤ x.2.1.length ∧ (WL lk a b).length ≤ x.2.2.length ∧ Wide wd x.2.1 ∧ Wide wd x.2.2
-- the world of a reckoning
structure SR (base cb pb k1 k2 wb : Nat) (wd : Int) (D F : Nat → Prop) (SS : Nat → World → Prop) (x : Nat × List ByteArray × List ByteArray) (w : World) : Prop where
  ss : SS x.1 w
  cp : Pile base cb x.2.1 w
  pp : Pile base pb x.2.2 w
  b1 : w.cell? ⟨k1, 0, none⟩ = some (.func (.func 69) #[.pointer (some ⟨cb, 0, none⟩)] #[])
  b2 : w.cell? ⟨k2, 0, none⟩ = some (.func (.func 69) #[.pointer (some ⟨pb, 0, none⟩)] #[])
  bw : w.cell? ⟨wb, 0, none⟩ = some (.int .i64 wd)
  tab : Tab w
  big : 3 ≤ base ∧ base ≤ w.heap.size
  ne : cb ≠ pb ∧ k1 ≠ cb ∧ k1 ≠ pb ∧ k2 ≠ cb ∧ k2 ≠ pb ∧ wb ≠ cb ∧ wb ≠ pb ∧ ¬ D cb ∧ ¬ D pb ∧ ¬ F k1 ∧ ¬ F k2 ∧ ¬ F wb
  fb : ∀ b, F b → base ≤ b
section
variable {base cb pb k1 k2 wb : Nat} {wd : Int} {D F : Nat → Prop} {SS : Nat → World → Prop} {lk : Nat → Nat → Nat} {cur : Nat → Nat} {lg : Nat} {lv : Array Value}
theorem SR.later (S : Shp D F SS lk cur lg lv) {x : Nat × List ByteArray × List ByteArray} {w w' : World} (h : SR base cb pb k1 k2 wb wd D F SS x w) (hb : Below w.heap.size w w') : SR base cb pb k1 k2 wb wd D F SS x w' :=
  have k : Kp no w w' := Kp.of_below hb
  ⟨S.later h.ss hb, h.cp.keep k (fun _ e => e.elim) (fun e => e), h.pp.keep k (fun _ e => e.elim) (fun e => e), k.cell h.b1 (fun e => e), k.cell h.b2 (fun e => e), k.cell h.bw (fun e => e), h.tab.down hb, ⟨h.big.1, Nat.le_trans h.big.2 hb.size⟩, h.ne, h.fb⟩
def FF (F : Nat → Prop) (cb pb : Nat) : Nat → Prop := fun b => F b ∨ b = cb ∨ b = pb
set_option maxHeartbeats 800000 in
theorem haveS (S : Shp D F SS lk cur lg lv) (x : Nat × List ByteArray × List ByteArray) (a b s : Nat) (hs : s < 2) (w : World) (h : SR base cb pb k1 k2 wb wd D F SS x w) (hc : s = 0 → 1 ≤ x.2.1.length) (hp : s = 1 → 1 ≤ x.2.2.length) :
    Calls Tryz.prog 101 #[.agg #[.int .i64 a, .int .i64 b], .int .i64 s, .pointer (some ⟨k1, 0, none⟩), .pointer (some ⟨k2, 0, none⟩)] w fun e w' => e = .returned (.string ((WS wd lk cur).hv x a b s).1) ∧ SR base cb pb k1 k2 wb wd D F SS ((WS wd lk cur).hv x a b s).2 w' ∧ Kp (FF F cb pb) w w' := by
  have BA : Hid (Below w.heap.size w (w.alloc (.cells #[.int .i64 a, .int .i64 b] 95))) := (Below.refl _ _).alloc (Nat.le_refl _) _
  have HA : Hid (SR base cb pb k1 k2 wb wd D F SS x (w.alloc (.cells #[.int .i64 a, .int .i64 b] 95))) := h.later S BA.out
  have c1 := HA.out.b1
  have c2 := HA.out.b2
  obtain ⟨m, c, p⟩ := x
  have HN : Hid (_ ∧ _) := h.ne
  rcases (show s = 0 ∨ s = 1 by omega) with rfl | rfl
  · obtain ⟨y, t, rfl⟩ : ∃ y t, c = y :: t := by
      cases c with
      | nil => have := hc rfl; simp at this
      | cons y t => exact ⟨y, t, rfl⟩
    have NC : Hid (Calls _ _ _ _ _) := nextC base cb y t _ HA.out.cp
    have e : (WS wd lk cur).hv (m, y :: t, p) a b 0 = (y, m, t, p) := rfl
    rw [e]
    clear h hc hp e
    go_enter Tryz.func101, Tryz.ntmps101
    go_wp2_with fail
    refine NC.out.mono ?_
    rintro e w1 ⟨rfl, hp1, hk1⟩
    have G : Hid (SR base cb pb k1 k2 wb wd D F SS (m, t, p) w1 ∧ Kp (FF F cb pb) w w1) := by
      obtain ⟨n1, n2, n3, n4, n5, n6, n7, n8, n9, n10, n11, n12⟩ := HN.out
      have hb : Below base (w.alloc (.cells #[.int .i64 a, .int .i64 b] 95)) w1 := hk1.below (fun b e => by subst e; exact hp1.new) HA.out.big.2
      refine ⟨⟨S.keep HA.out.ss hk1 (fun b e => by subst e; exact n8), hp1, HA.out.pp.keep hk1 (fun b e => by subst e; exact hp1.new) (fun e => n1 e.symm), hk1.cell HA.out.b1 n2, hk1.cell HA.out.b2 n4, hk1.cell HA.out.bw n6, HA.out.tab.below hb HA.out.big.1, ⟨HA.out.big.1, Nat.le_trans HA.out.big.2 hk1.size⟩, ⟨n1, n2, n3, n4, n5, n6, n7, n8, n9, n10, n11, n12⟩, HA.out.fb⟩, ?_⟩
      exact (Kp.of_below BA.out).trans (hk1.mono fun b e => .inr (.inl e))
    clear hp1 hk1 c1 c2
    go_wp2
    go_ret
    exact ⟨rfl, G.out.1, G.out.2⟩
  · obtain ⟨y, t, rfl⟩ : ∃ y t, p = y :: t := by
      cases p with
      | nil => have := hp rfl; simp at this
      | cons y t => exact ⟨y, t, rfl⟩
    have NC : Hid (Calls _ _ _ _ _) := nextC base pb y t _ HA.out.pp
    have e : (WS wd lk cur).hv (m, c, y :: t) a b 1 = (y, m, c, t) := rfl
    rw [e]
    clear h hc hp e
    go_enter Tryz.func101, Tryz.ntmps101
    go_wp2_with fail
    refine NC.out.mono ?_
    rintro e w1 ⟨rfl, hp1, hk1⟩
    have G : Hid (SR base cb pb k1 k2 wb wd D F SS (m, c, t) w1 ∧ Kp (FF F cb pb) w w1) := by
      obtain ⟨n1, n2, n3, n4, n5, n6, n7, n8, n9, n10, n11, n12⟩ := HN.out
      have hb : Below base (w.alloc (.cells #[.int .i64 a, .int .i64 b] 95)) w1 := hk1.below (fun b e => by subst e; exact hp1.new) HA.out.big.2
      refine ⟨⟨S.keep HA.out.ss hk1 (fun b e => by subst e; exact n9), HA.out.cp.keep hk1 (fun b e => by subst e; exact hp1.new) (fun e => n1 e), hp1, hk1.cell HA.out.b1 n3, hk1.cell HA.out.b2 n5, hk1.cell HA.out.bw n7, HA.out.tab.below hb HA.out.big.1, ⟨HA.out.big.1, Nat.le_trans HA.out.big.2 hk1.size⟩, ⟨n1, n2, n3, n4, n5, n6, n7, n8, n9, n10, n11, n12⟩, HA.out.fb⟩, ?_⟩
      exact (Kp.of_below BA.out).trans (hk1.mono fun b e => .inr (.inr e))
    clear hp1 hk1 c1 c2
    go_wp2
    go_ret
    exact ⟨rfl, G.out.1, G.out.2⟩
theorem joinS (l r : ByteArray) (hl : l.size = wid wd) (hr : r.size = wid wd) (w : World) (hw : w.cell? ⟨wb, 0, none⟩ = some (.int .i64 wd)) (hT : Tab w) :
    Calls Tryz.prog 103 #[.string l, .string r, .pointer (some ⟨wb, 0, none⟩)] w fun e w' => e = .returned (.string (NF wd l r)) ∧ Below w.heap.size w w' := by
  have h32 := wid_le wd
  have NC : Hid (Calls _ _ _ _ _) := pNode wd l r (by omega) w hT
  obtain ⟨y, HY⟩ : ∃ y, Hid (NF wd l r = y) := ⟨_, rfl⟩
  rw [HY.out] at NC ⊢
  clear h32 hl hr
  go_enter Tryz.func103, Tryz.ntmps103
  go_wp2_with fail
  refine NC.out.mono ?_
  rintro e w1 ⟨rfl, hb⟩
  have B1 : Hid (Below w.heap.size w w1) := hb
  clear hb
  go_wp2
  go_ret
  exact ⟨rfl, B1.out⟩
theorem NF_size (wd : Int) (l r : ByteArray) : (NF wd l r).size = wid wd := cutS_size _ _
theorem KS (S : Shp D F SS lk cur lg lv) (hd : ∀ b, F b → D b) : Wk (FF F cb pb) (SR base cb pb k1 k2 wb wd D F SS) (fun v : ByteArray => Value.string v) (WS wd lk cur) (PS wd lk cur) (fun v => v.size = wid wd) lg 101 103 lv #[.pointer (some ⟨k1, 0, none⟩), .pointer (some ⟨k2, 0, none⟩)] #[.pointer (some ⟨wb, 0, none⟩)] where
  lent := S.enter
  hent := fun args w => by simp [go_sem]
  jent := fun args w => by simp [go_sem]
  later := fun h b => h.later S b
  fl := fun h b hb => by
    rcases hb with hb | rfl | rfl
    · exact S.fl h.ss b (hd b hb)
    · exact h.cp.lt
    · exact h.pp.lt
  look := fun x a b w hab hb hP hS => by
    obtain ⟨m, c, p⟩ := x
    obtain ⟨rfl, _⟩ := hP
    refine (S.call a b w hab hb hS.ss).mono fun e w' hh => ?_
    obtain ⟨h1, h2, h3⟩ := hh
    obtain ⟨n1, n2, n3, n4, n5, n6, n7, n8, n9, n10, n11, n12⟩ := hS.ne
    have hb' : Below base w w' := h3.below hS.fb hS.big.2
    refine ⟨h1, ⟨h2, hS.cp.keep h3 hS.fb (fun e => n8 (hd _ e)), hS.pp.keep h3 hS.fb (fun e => n9 (hd _ e)), h3.cell hS.b1 n10, h3.cell hS.b2 n11, h3.cell hS.bw n12, hS.tab.below hb' hS.big.1, ⟨hS.big.1, Nat.le_trans hS.big.2 h3.size⟩, hS.ne, hS.fb⟩, h3.mono fun b e => .inl e⟩
  have' := fun x a b w hab hb hP h hS => by
    obtain ⟨m, c, p⟩ := x
    obtain ⟨rfl, _, _, q1, q2, _, _⟩ := hP
    refine haveS S _ a b (lk a b) h w hS (fun e => ?_) (fun e => ?_)
    · rw [WL_take (lk := qb.fl lk) (by unfold qb.fl; rw [if_pos e])] at q1; exact q1
    · rw [WL_take e] at q2; exact q2
  join := fun l r x w hl hr hS => joinS l r hl hr w hS.bw hS.tab
  qh := fun {x a b} hab hP h => by
    obtain ⟨m, c, p⟩ := x
    obtain ⟨rfl, _, _, q1, q2, q3, q4⟩ := hP
    have h' : lk a b < 2 := h
    rcases (show lk a b = 0 ∨ lk a b = 1 by omega) with e | e
    · have z : (WS wd lk cur).lk (cur a, c, p) a b = (0, cur b, c, p) := by show (lk a b, _) = _; rw [e]; rfl
      rw [z]
      rw [WL_take (lk := qb.fl lk) (by unfold qb.fl; rw [if_pos e])] at q1
      exact q3.head q1
    · have z : (WS wd lk cur).lk (cur a, c, p) a b = (1, cur b, c, p) := by show (lk a b, _) = _; rw [e]; rfl
      rw [z]
      rw [WL_take e] at q2
      exact q4.head q2
  qj := fun _ _ => NF_size _ _ _
  wide := fun hab _ h => S.wide hab h
  four := fun _ _ => S.four _ _
  left := fun {x a b} hab hP h => by
    obtain ⟨m, c, p⟩ := x
    obtain ⟨rfl, _, hb, q1, q2, q3, q4⟩ := hP
    have h' : lk a b = 2 := h
    have h2 := S.wide hab (by omega)
    have hh := half_lt h2
    have e : (WS wd lk cur).lk (cur a, c, p) a b = (2, cur a, c, p) := by show (lk a b, _) = _; rw [h']; rfl
    rw [WL_left h' h2, List.length_append] at q2
    rw [WL_left (lk := qb.fl lk) (by rw [fl_two (by omega)]; exact h') h2, List.length_append] at q1
    simp only at q1 q2 q3 q4
    rw [e]
    simp only
    rw [go_state wd S.wide S.four S.turn (half (b - a)) a (a + half (b - a)) c p (by omega) (by omega)]
    exact ⟨⟨rfl, by omega, by omega, by show _ ≤ c.length; omega, by show _ ≤ p.length; omega, q3, q4⟩, rfl, by omega, hb, by show _ ≤ (c.drop _).length; rw [List.length_drop]; omega, by show _ ≤ (p.drop _).length; rw [List.length_drop]; omega, q3.drop _, q4.drop _⟩
  right := fun {x a b} hab hP h => by
    obtain ⟨m, c, p⟩ := x
    obtain ⟨rfl, _, hb, q1, q2, q3, q4⟩ := hP
    have h' : lk a b = 3 := h
    have hc := S.turn h'
    have h2 := S.wide hab (by omega)
    have hh := half_lt h2
    have e : (WS wd lk cur).lk (cur a, c, p) a b = (3, cur (a + half (b - a)), c, p) := by show (lk a b, _) = _; rw [h']; show (3, cur a, c, p) = _; rw [hc a, hc (a + half (b - a))]
    rw [WL_right (lk := lk) (by omega) h2, List.length_append] at q2
    rw [WL_right (lk := qb.fl lk) (by rw [fl_two (by omega)]; omega) h2, List.length_append] at q1
    simp only at q1 q2 q3 q4
    rw [e]
    simp only
    rw [go_state wd S.wide S.four S.turn (b - a - half (b - a)) (a + half (b - a)) b c p (by omega) (by omega)]
    exact ⟨⟨rfl, by omega, hb, by show _ ≤ c.length; omega, by show _ ≤ p.length; omega, q3, q4⟩, by show cur b = cur a; rw [hc a, hc b], by omega, by omega, by show _ ≤ (c.drop _).length; rw [List.length_drop]; omega, by show _ ≤ (p.drop _).length; rw [List.length_drop]; omega, q3.drop _, q4.drop _⟩
end
end Go.Proofs.YtfaalpdeabdhcaaGreatDoor.qb

namespace Go.Proofs.YtfaalpdeabdhcaaGreatDoor.qc
open Go.RowKit Go.PlainAid
open Go.Proofs.YtfaalpdeabdhcaaGreatDoor.pl Go.Proofs.YtfaalpdeabdhcaaGreatDoor.pi Go.Proofs.YtfaalpdeabdhcaaGreatDoor.pj Go.Proofs.YtfaalpdeabdhcaaGreatDoor.rf Go.Proofs.YtfaalpdeabdhcaaGreatDoor.ca Go.Proofs.YtfaalpdeabdhcaaGreatDoor.cb Go.Proofs.YtfaalpdeabdhcaaGreatDoor.cp Go.Proofs.YtfaalpdeabdhcaaGreatDoor.ga Go.Proofs.YtfaalpdeabdhcaaGreatDoor.aa Go.Proofs.YtfaalpdeabdhcaaGreatDoor.ka Go.Proofs.YtfaalpdeabdhcaaGreatDoor.kb Go.Proofs.YtfaalpdeabdhcaaGreatDoor.kc Go.Proofs.YtfaalpdeabdhcaaGreatDoor.kp Go.Proofs.YtfaalpdeabdhcaaGreatDoor.lk Go.Proofs.YtfaalpdeabdhcaaGreatDoor.wt Go.Proofs.YtfaalpdeabdhcaaGreatDoor.qa Go.Proofs.YtfaalpdeabdhcaaGreatDoor.qb
set_option linter.unusedVariables false

theorem three_one (w : World) (x y z : Value) (t t' t'' : TypeId) : (((w.alloc (.cells #[x] t)).alloc (.cells #[y] t')).alloc (.cells #[z] t'')).cell? ⟨w.heap.size, 0, none⟩ = some x ∧ (((w.alloc (.cells #[x] t)).alloc (.cells #[y] t')).alloc (.cells #[z] t'')).cell? ⟨w.heap.size + 1, 0, none⟩ = some y ∧ (((w.alloc (.cells #[x] t)).alloc (.cells #[y] t')).alloc (.cells #[z] t'')).cell? ⟨w.heap.size + 2, 0, none⟩ = some z := by
  have s1 : (w.alloc (.cells #[x] t)).heap.size = w.heap.size + 1 := by simp
  have s2 : ((w.alloc (.cells #[x] t)).alloc (.cells #[y] t')).heap.size = w.heap.size + 2 := by simp
  have B2 : Below (w.alloc (.cells #[x] t)).heap.size (w.alloc (.cells #[x] t)) (((w.alloc (.cells #[x] t)).alloc (.cells #[y] t')).alloc (.cells #[z] t'')) := ((Below.refl _ _).alloc (Nat.le_refl _) _).alloc (by simp) _
  have B3 : Below ((w.alloc (.cells #[x] t)).alloc (.cells #[y] t')).heap.size ((w.alloc (.cells #[x] t)).alloc (.cells #[y] t')) (((w.alloc (.cells #[x] t)).alloc (.cells #[y] t')).alloc (.cells #[z] t'')) := (Below.refl _ _).alloc (Nat.le_refl _) _
  refine ⟨?_, ?_, ?_⟩
  · refine (B2.cell (p := ⟨w.heap.size, 0, none⟩) (by show w.heap.size < _; rw [s1]; omega)).trans ?_
    rw [World.cell?_alloc_at _ _ _ _ rfl]; rfl
  · refine (B3.cell (p := ⟨w.heap.size + 1, 0, none⟩) (by show w.heap.size + 1 < _; rw [s2]; omega)).trans ?_
    rw [← s1, World.cell?_alloc_at _ _ _ _ rfl]; rfl
  · rw [← s2, World.cell?_alloc_at _ _ _ _ rfl]; rfl
section
variable {D F : Nat → Prop} {SS : Nat → World → Prop} {lk : Nat → Nat → Nat} {cur : Nat → Nat} {lg : Nat} {lv : Array Value}
theorem reckonC (S : Shp D F SS lk cur lg lv) (wd : Int) (n base cb pb : Nat) (c p : List ByteArray) (h1 : 1 ≤ n) (hn : n ≤ 4611686018427387904) (w : World)
    (hss : SS (cur 0) w) (hc : Pile base cb c w) (hp : Pile base pb p w) (hT : Tab w) (hb1 : 3 ≤ base) (hb2 : base ≤ w.heap.size) (hne : cb ≠ pb) (hdc : ¬ D cb) (hdp : ¬ D pb) (hfb : ∀ b, F b → base ≤ b)
    (hl1 : (WL (fl lk) 0 n).length ≤ c.length) (hl2 : (WL lk 0 n).length ≤ p.length) (w1 : Wide wd c) (w2 : Wide wd p) :
    Calls Tryz.prog 68 #[.int .i64 wd, .int .i64 n, .func (.func lg) #[] lv, .func (.func 69) #[.pointer (some ⟨cb, 0, none⟩)] #[], .func (.func 69) #[.pointer (some ⟨pb, 0, none⟩)] #[]] w
      fun e w' => e = .returned (.string (go (WS wd lk cur) (cur 0, c, p) 0 n).1) ∧ (go (WS wd lk cur) (cur 0, c, p) 0 n).1.size = wid wd ∧ Below base w w' := by
  have B3 : Hid (Below w.heap.size w (((w.alloc (.cells #[.int .i64 wd] 3)).alloc (.cells #[.func (.func 69) #[.pointer (some ⟨cb, 0, none⟩)] #[]] 93)).alloc (.cells #[.func (.func 69) #[.pointer (some ⟨pb, 0, none⟩)] #[]] 93))) := (((Below.refl _ _).alloc (Nat.le_refl _) _).alloc (by simp) _).alloc (by simp; omega) _
  obtain ⟨x1, x2, x3⟩ := three_one w (.int .i64 wd) (.func (.func 69) #[.pointer (some ⟨cb, 0, none⟩)] #[]) (.func (.func 69) #[.pointer (some ⟨pb, 0, none⟩)] #[]) 3 93 93
  have k : Kp no w _ := Kp.of_below B3.out
  have lc := hc.lt
  have lp := hp.lt
  have hff : ∀ b, F b → b < w.heap.size := fun b hb => S.fl hss b (S.fd b hb)
  have HSR : Hid (SR base cb pb (w.heap.size + 1) (w.heap.size + 2) w.heap.size wd D F SS (cur 0, c, p) (((w.alloc (.cells #[.int .i64 wd] 3)).alloc (.cells #[.func (.func 69) #[.pointer (some ⟨cb, 0, none⟩)] #[]] 93)).alloc (.cells #[.func (.func 69) #[.pointer (some ⟨pb, 0, none⟩)] #[]] 93))) :=
    ⟨S.later hss B3.out, hc.keep k (fun _ e => e.elim) (fun e => e), hp.keep k (fun _ e => e.elim) (fun e => e), x2, x3, x1, hT.down B3.out, ⟨hb1, Nat.le_trans hb2 B3.out.size⟩,
     ⟨hne, by omega, by omega, by omega, by omega, by omega, by omega, hdc, hdp, fun e => by have := hff _ e; omega, fun e => by have := hff _ e; omega, fun e => by have := hff _ e; omega⟩, hfb⟩
  have WC : Hid (Calls _ _ _ _ _) := walkC (KS S S.fd) n 0 n (cur 0, c, p) _ rfl (by omega) hn ⟨rfl, by omega, hn, hl1, hl2, w1, w2⟩ HSR.out
  have HF : Hid (∀ b, FF F cb pb b → base ≤ b) := fun b hb => by
    rcases hb with h | rfl | rfl
    · exact hfb _ h
    · exact hc.new
    · exact hp.new
  have HB2 : Hid (base ≤ w.heap.size) := hb2
  obtain ⟨G, HG⟩ : ∃ G, Hid (go (WS wd lk cur) (cur 0, c, p) 0 n = G) := ⟨_, rfl⟩
  rw [HG.out] at WC ⊢
  clear hss hc hp hT hb1 hb2 hne hdc hdp hfb hl1 hl2 w1 w2 x1 x2 x3 k lc lp hff HG
  go_enter Tryz.func68, Tryz.ntmps68
  go_wp2_with fail
  refine WC.out.mono ?_
  rintro e w4 ⟨rfl, hs, hk, hq⟩
  have H4 : Hid (G.1.size = wid wd ∧ Below base w w4) := ⟨hq, (B3.out.mono HB2.out).trans (hk.below HF.out (Nat.le_trans HB2.out B3.out.size))⟩
  clear hs hk hq
  go_wp2
  go_ret
  exact ⟨rfl, H4.out.1, H4.out.2⟩
end
theorem beqL (a b : ByteArray) : (a.toList == b.toList) = decide (a = b) := by
  by_cases h : a = b
  · subst h; simp
  · rw [decide_eq_false h, beq_eq_false_iff_ne, ByteArray.toList_eq, ByteArray.toList_eq]
    intro e
    exact h (ByteArray.ext (Array.ext' e))
-- have all texts the width's bytes?
def okH (wd : Int) (l : List ByteArray) : Bool := l.all fun h => decide (h.size = wid wd)
theorem okH_wide {wd : Int} {l : List ByteArray} (h : okH wd l = true) : Wide wd l := fun x hx => by
  have := List.all_eq_true.1 h x hx
  simpa using this
theorem wide_okH {wd : Int} {l : List ByteArray} (h : Wide wd l) : okH wd l = true := List.all_eq_true.2 fun x hx => by simpa using h x hx
set_option maxHeartbeats 1600000 in
theorem areC (wd : Int) (hwd : i64 wd) (v : Value) (l : List ByteArray) (w : World) (hR : ReadsT w v l) (hz : l.length ≤ 140737488355328) :
    Calls Tryz.prog 65 #[.int .i64 wd, v] w fun e w' => e = .returned (.bool (okH wd l)) ∧ w' = w := by
  obtain ⟨a, cap, rfl, hcap, hh⟩ := hR
  have HC : Hid (l.length = 0 ∨ ∃ b off, a = some ⟨b, off, none⟩ ∧ ∀ i, i < l.length → w.cell? ⟨b, off + i, none⟩ = some (.string (l.getD i ByteArray.empty))) := hh
  obtain ⟨n, HN⟩ : ∃ n, Hid (l.length = n) := ⟨_, rfl⟩
  obtain ⟨r, HR⟩ : ∃ r, Hid (okH wd l = r) := ⟨_, rfl⟩
  rw [HR.out]
  rw [HN.out] at HC hz hcap ⊢
  have HW : Hid ((wid wd : Int) = if wd < 1 ∨ 32 < wd then 32 else wd) := by
    show _ = _
    unfold wid
    by_cases h : wd < 1 ∨ 32 < wd
    · rw [if_pos h, if_pos h]; rfl
    · rw [if_neg h, if_neg h]; omega
  clear hh
  have BODY : Hid (∀ k, k < n → r = true → (l.getD k ByteArray.empty).size = wid wd) := fun k hk hr => by
    have hk' : k < l.length := by rw [HN.out]; exact hk
    rw [List.getD_eq_getElem?_getD, List.getElem?_eq_getElem hk']
    exact okH_wide (HR.out.trans hr) _ (List.getElem_mem hk')
  have NOT : Hid (∀ k, k < n → (l.getD k ByteArray.empty).size ≠ wid wd → r = false) := fun k hk hr => by
    cases hrr : r with
    | false => rfl
    | true => exact absurd (BODY.out k hk hrr) hr
  have ALL : Hid ((∀ k, k < n → (l.getD k ByteArray.empty).size = wid wd) → r = true) := fun h => by
    rw [← HR.out]
    refine wide_okH fun x hx => ?_
    obtain ⟨j, hj, rfl⟩ := List.getElem_of_mem hx
    have := h j (by rw [← HN.out]; exact hj)
    rwa [List.getD_eq_getElem?_getD, List.getElem?_eq_getElem hj] at this
  obtain ⟨m, HM⟩ : ∃ m : Int, Hid ((wid wd : Int) = m) := ⟨_, rfl⟩
  rw [HM.out] at HW
  have hm : 0 ≤ m ∧ m ≤ 32 := by have := qb.wid_le wd; rw [← HM.out]; omega
  rcases (show wd < 1 ∨ 32 < wd ∨ (1 ≤ wd ∧ wd ≤ 32) by omega) with h1 | h1 | h1
  · have d1 : decide (wd < 1) = true := decide_eq_true h1
    have e32 : m = 32 := by rw [HW.out, if_pos (.inl h1)]
    subst e32
    clear h1 HW
    go_enter Tryz.func65, Tryz.ntmps65
    go_wp2
    go_loopw [15] (fun i wr => ∃ k : Nat, k ≤ n ∧ i = .int .i64 k ∧ Hid (∀ j, j < k → (l.getD j ByteArray.empty).size = wid wd) ∧ w = wr) (fun i _ => (n - intOf i).toNat)
    case atStart => exact ⟨0, by omega, rfl, fun j h => by omega, rfl⟩
    case round =>
      obtain ⟨k, hk, rfl, HS, rfl⟩ := hrel
      by_cases hlt : k < n
      · have hlt' : (k : Int) < n := by omega
        obtain ⟨b, off, rfl, hc⟩ : ∃ b off, a = some ⟨b, off, none⟩ ∧ ∀ i, i < n → w.cell? ⟨b, off + i, none⟩ = some (.string (l.getD i ByteArray.empty)) := by
          rcases HC.out with h | h
          · omega
          · exact h
        have c1 := hc k hlt
        have HNK : Hid ((l.getD k ByteArray.empty).size ≠ wid wd → r = false) := NOT.out k hlt
        obtain ⟨x, HX⟩ : ∃ x, Hid (l.getD k ByteArray.empty = x) := ⟨_, rfl⟩
        rw [HX.out] at c1 HNK
        by_cases hx : (x.size : Int) = 32
        · have q : ((x.size : Int) == 32) = true := by rw [beq_iff_eq]; exact hx
          have HS1 : Hid (∀ j, j < k + 1 → (l.getD j ByteArray.empty).size = wid wd) := fun j hj => by
            by_cases e : j = k
            · subst e; rw [HX.out]; have := HM.out; omega
            · exact HS.out j (by omega)
          clear hc hx
          go_wp2
          go_roundw
          case rel => exact ⟨k + 1, by omega, by go_num, HS1.out, by first | rfl | trivial⟩
          case measure => simp [intOf]; omega
        · have q : ((x.size : Int) == 32) = false := by rw [beq_eq_false_iff_ne]; exact hx
          have HE : Hid (r = false) := HNK.out (fun e => hx (by have := HM.out; omega))
          clear hc hx
          go_wp2
          go_ret
          exact ⟨by first | (rw [HE.out]; done) | (rw [HE.out]; rfl), rfl⟩
      · have hlt' : ¬ (k : Int) < n := by omega
        have HE : Hid (r = true) := ALL.out (fun j hj => HS.out j (by omega))
        go_wp2
        go_ret
        exact ⟨by first | (rw [HE.out]; done) | (rw [HE.out]; rfl), rfl⟩
  · have d0 : decide (wd < 1) = false := decide_eq_false (by omega)
    have d1 : decide (32 < wd) = true := decide_eq_true h1
    have e32 : m = 32 := by rw [HW.out, if_pos (.inr h1)]
    subst e32
    clear h1 HW
    go_enter Tryz.func65, Tryz.ntmps65
    go_wp2
    go_loopw [15] (fun i wr => ∃ k : Nat, k ≤ n ∧ i = .int .i64 k ∧ Hid (∀ j, j < k → (l.getD j ByteArray.empty).size = wid wd) ∧ w = wr) (fun i _ => (n - intOf i).toNat)
    case atStart => exact ⟨0, by omega, rfl, fun j h => by omega, rfl⟩
    case round =>
      obtain ⟨k, hk, rfl, HS, rfl⟩ := hrel
      by_cases hlt : k < n
      · have hlt' : (k : Int) < n := by omega
        obtain ⟨b, off, rfl, hc⟩ : ∃ b off, a = some ⟨b, off, none⟩ ∧ ∀ i, i < n → w.cell? ⟨b, off + i, none⟩ = some (.string (l.getD i ByteArray.empty)) := by
          rcases HC.out with h | h
          · omega
          · exact h
        have c1 := hc k hlt
        have HNK : Hid ((l.getD k ByteArray.empty).size ≠ wid wd → r = false) := NOT.out k hlt
        obtain ⟨x, HX⟩ : ∃ x, Hid (l.getD k ByteArray.empty = x) := ⟨_, rfl⟩
        rw [HX.out] at c1 HNK
        by_cases hx : (x.size : Int) = 32
        · have q : ((x.size : Int) == 32) = true := by rw [beq_iff_eq]; exact hx
          have HS1 : Hid (∀ j, j < k + 1 → (l.getD j ByteArray.empty).size = wid wd) := fun j hj => by
            by_cases e : j = k
            · subst e; rw [HX.out]; have := HM.out; omega
            · exact HS.out j (by omega)
          clear hc hx
          go_wp2
          go_roundw
          case rel => exact ⟨k + 1, by omega, by go_num, HS1.out, by first | rfl | trivial⟩
          case measure => simp [intOf]; omega
        · have q : ((x.size : Int) == 32) = false := by rw [beq_eq_false_iff_ne]; exact hx
          have HE : Hid (r = false) := HNK.out (fun e => hx (by have := HM.out; omega))
          clear hc hx
          go_wp2
          go_ret
          exact ⟨by first | (rw [HE.out]; done) | (rw [HE.out]; rfl), rfl⟩
      · have hlt' : ¬ (k : Int) < n := by omega
        have HE : Hid (r = true) := ALL.out (fun j hj => HS.out j (by omega))
        go_wp2
        go_ret
        exact ⟨by first | (rw [HE.out]; done) | (rw [HE.out]; rfl), rfl⟩
  · have d0 : decide (wd < 1) = false := decide_eq_false (by omega)
    have d1 : decide (32 < wd) = false := decide_eq_false (by omega)
    have e32 : m = wd := by rw [HW.out, if_neg (by omega)]
    subst e32
    clear HW
    go_enter Tryz.func65, Tryz.ntmps65
    go_wp2
    go_loopw [15] (fun i wr => ∃ k : Nat, k ≤ n ∧ i = .int .i64 k ∧ Hid (∀ j, j < k → (l.getD j ByteArray.empty).size = wid m) ∧ w = wr) (fun i _ => (n - intOf i).toNat)
    case atStart => exact ⟨0, by omega, rfl, fun j h => by omega, rfl⟩
    case round =>
      obtain ⟨k, hk, rfl, HS, rfl⟩ := hrel
      by_cases hlt : k < n
      · have hlt' : (k : Int) < n := by omega
        obtain ⟨b, off, rfl, hc⟩ : ∃ b off, a = some ⟨b, off, none⟩ ∧ ∀ i, i < n → w.cell? ⟨b, off + i, none⟩ = some (.string (l.getD i ByteArray.empty)) := by
          rcases HC.out with h | h
          · omega
          · exact h
        have c1 := hc k hlt
        have HNK : Hid ((l.getD k ByteArray.empty).size ≠ wid m → r = false) := NOT.out k hlt
        obtain ⟨x, HX⟩ : ∃ x, Hid (l.getD k ByteArray.empty = x) := ⟨_, rfl⟩
        rw [HX.out] at c1 HNK
        by_cases hx : (x.size : Int) = m
        · have q : ((x.size : Int) == m) = true := by rw [beq_iff_eq]; exact hx
          have HS1 : Hid (∀ j, j < k + 1 → (l.getD j ByteArray.empty).size = wid m) := fun j hj => by
            by_cases e : j = k
            · subst e; rw [HX.out]; have := HM.out; omega
            · exact HS.out j (by omega)
          clear hc hx
          go_wp2
          go_roundw
          case rel => exact ⟨k + 1, by omega, by go_num, HS1.out, by first | rfl | trivial⟩
          case measure => simp [intOf]; omega
        · have q : ((x.size : Int) == m) = false := by rw [beq_eq_false_iff_ne]; exact hx
          have HE : Hid (r = false) := HNK.out (fun e => hx (by have := HM.out; omega))
          clear hc hx
          go_wp2
          go_ret
          exact ⟨by first | (rw [HE.out]; done) | (rw [HE.out]; rfl), rfl⟩
      · have hlt' : ¬ (k : Int) < n := by omega
        have HE : Hid (r = true) := ALL.out (fun j hj => HS.out j (by omega))
        go_wp2
        go_ret
        exact ⟨by first | (rw [HE.out]; done) | (rw [HE.out]; rfl), rfl⟩
def rH (wd : Int) (count : Int) (proof others : List ByteArray) : Int := if okH wd others && okH wd proof then (if (proof.length : Int) = count then 0 else 71) else 72
theorem refuseH (wd : Int) (hwd : i64 wd) (count : Int) (vp vo : Value) (proof others : List ByteArray) (w : World) (hp : ReadsT w vp proof) (ho : ReadsT w vo others) (zp : proof.length ≤ 140737488355328) (zo : others.length ≤ 140737488355328) :
    Calls Tryz.prog 66 #[.int .i64 wd, .int .i64 count, vp, vo] w fun e w' => e = .returned (.int .i64 (rH wd count proof others)) ∧ w' = w := by
  have A1 : Hid (∀ w, ReadsT w vo others → Calls _ _ _ _ _) := fun w h => areC wd hwd vo others w h zo
  have A2 : Hid (∀ w, ReadsT w vp proof → Calls _ _ _ _ _) := fun w h => areC wd hwd vp proof w h zp
  have H1 : Hid (ReadsT w vo others ∧ ReadsT w vp proof) := ⟨ho, hp⟩
  obtain ⟨oa, oc, rfl, _⟩ := ho
  obtain ⟨pa, pc, rfl, _⟩ := hp
  unfold rH
  obtain ⟨n, HN⟩ : ∃ n, Hid (proof.length = n) := ⟨_, rfl⟩
  obtain ⟨x, HX⟩ : ∃ x, Hid (okH wd others = x) := ⟨_, rfl⟩
  obtain ⟨y, HY⟩ : ∃ y, Hid (okH wd proof = y) := ⟨_, rfl⟩
  rw [HX.out] at A1 ⊢
  rw [HY.out] at A2 ⊢
  rw [HN.out] at A2 H1 zp ⊢
  cases x
  · go_enter Tryz.func66, Tryz.ntmps66
    go_wp2_with fail
    refine (A1.out _ H1.out.1).mono ?_
    rintro e w1 ⟨rfl, hw⟩
    subst hw
    go_wp2
    go_ret
    exact ⟨rfl, rfl⟩
  · cases y
    · go_enter Tryz.func66, Tryz.ntmps66
      go_wp2_with fail
      refine (A1.out _ H1.out.1).mono ?_
      rintro e w1 ⟨rfl, hw⟩
      subst hw
      go_wp2_with fail
      refine (A2.out _ H1.out.2).mono ?_
      rintro e w2 ⟨rfl, hw⟩
      subst hw
      go_wp2
      go_ret
      exact ⟨rfl, rfl⟩
    · by_cases hc : (n : Int) = count
      · subst hc
        have q : ((n : Int) == n) = true := beq_self_eq_true _
        go_enter Tryz.func66, Tryz.ntmps66
        go_wp2_with fail
        refine (A1.out _ H1.out.1).mono ?_
        rintro e w1 ⟨rfl, hw⟩
        subst hw
        go_wp2_with fail
        refine (A2.out _ H1.out.2).mono ?_
        rintro e w2 ⟨rfl, hw⟩
        subst hw
        go_wp2
        go_ret
        exact ⟨by first | rfl | simp, rfl⟩
      · have q : ((n : Int) == count) = false := by rw [beq_eq_false_iff_ne]; exact hc
        go_enter Tryz.func66, Tryz.ntmps66
        go_wp2_with fail
        refine (A1.out _ H1.out.1).mono ?_
        rintro e w1 ⟨rfl, hw⟩
        subst hw
        go_wp2_with fail
        refine (A2.out _ H1.out.2).mono ?_
        rintro e w2 ⟨rfl, hw⟩
        subst hw
        go_wp2
        go_ret
        exact ⟨by first | rfl | simp [hc], rfl⟩
theorem matchC (x root : ByteArray) (w : World) : Calls Tryz.prog 67 #[.string x, .string root] w fun e w' => e = .returned (.int .i64 (if x = root then 0 else 90)) ∧ w' = w := by
  by_cases h : x = root
  · subst h
    rw [if_pos rfl]
    have q : (x.toList == x.toList) = true := beq_self_eq_true _
    go_enter Tryz.func67, Tryz.ntmps67
    go_wp2
    go_ret
    exact ⟨rfl, rfl⟩
  · rw [if_neg h]
    have q : (x.toList == root.toList) = false := by rw [beqL]; exact decide_eq_false h
    go_enter Tryz.func67, Tryz.ntmps67
    go_wp2
    go_ret
    exact ⟨rfl, rfl⟩
end Go.Proofs.YtfaalpdeabdhcaaGreatDoor.qc

namespace Go.Proofs.YtfaalpdeabdhcaaGreatDoor.qd
open Go.RowKit Go.PlainAid
open Go.Proofs.YtfaalpdeabdhcaaGreatDoor.pl Go.Proofs.YtfaalpdeabdhcaaGreatDoor.pi Go.Proofs.YtfaalpdeabdhcaaGreatDoor.pj Go.Proofs.YtfaalpdeabdhcaaGreatDoor.rf Go.Proofs.YtfaalpdeabdhcaaGreatDoor.ca Go.Proofs.YtfaalpdeabdhcaaGreatDoor.cb Go.Proofs.YtfaalpdeabdhcaaGreatDoor.cp Go.Proofs.YtfaalpdeabdhcaaGreatDoor.ga Go.Proofs.YtfaalpdeabdhcaaGreatDoor.aa Go.Proofs.YtfaalpdeabdhcaaGreatDoor.ka Go.Proofs.YtfaalpdeabdhcaaGreatDoor.kb Go.Proofs.YtfaalpdeabdhcaaGreatDoor.kc Go.Proofs.YtfaalpdeabdhcaaGreatDoor.kp Go.Proofs.YtfaalpdeabdhcaaGreatDoor.lk Go.Proofs.YtfaalpdeabdhcaaGreatDoor.mi Go.Proofs.YtfaalpdeabdhcaaGreatDoor.co Go.Proofs.YtfaalpdeabdhcaaGreatDoor.cn Go.Proofs.YtfaalpdeabdhcaaGreatDoor.dc Go.Proofs.YtfaalpdeabdhcaaGreatDoor.wt Go.Proofs.YtfaalpdeabdhcaaGreatDoor.qa Go.Proofs.YtfaalpdeabdhcaaGreatDoor.qb Go.Proofs.YtfaalpdeabdhcaaGreatDoor.qc
set_option linter.unusedVariables false

def ldP (wd : Int) (i n : Nat) (hash : ByteArray) (path : List ByteArray) : ByteArray := (go (WS wd (lkI i) (fun _ => 0)) (0, [hash], path) 0 n).1
theorem claims (i : Nat) (n : Nat) : ∀ a b, b - a = n → a < b → (WL (fl (lkI i)) a b).length ≤ 1 ∧ (¬ (a ≤ i ∧ i < b) → (WL (fl (lkI i)) a b).length = 0) := by
  induction n using Nat.strongRecOn with
  | ind n ih =>
    intro a b hn hab
    by_cases h : a ≤ i ∧ i < b
    · refine ⟨?_, fun g => absurd h g⟩
      by_cases h1 : b - a = 1
      · rw [WL_take (lk := fl (lkI i)) (by unfold fl lkI; rw [if_pos h, if_pos h1]; rfl)]; simp
      · have h2 : 2 ≤ b - a := by omega
        have hh := half_lt h2
        obtain ⟨l1, l2⟩ := ih (half (b - a)) (by omega) a (a + half (b - a)) (by omega) (by omega)
        obtain ⟨r1, r2⟩ := ih (b - a - half (b - a)) (by omega) (a + half (b - a)) b (by omega) (by omega)
        by_cases g : i < a + half (b - a)
        · rw [WL_left (lk := fl (lkI i)) (by rw [fl_two] <;> (unfold lkI; rw [if_pos h, if_neg h1, if_pos g]) ; omega) h2, List.length_append, r2 (by omega)]; omega
        · rw [WL_right (lk := fl (lkI i)) (by rw [fl_two] <;> (unfold lkI; rw [if_pos h, if_neg h1, if_neg g]); all_goals omega) h2, List.length_append, l2 (by omega)]; omega
    · have e : WL (fl (lkI i)) a b = [] := WL_pass (by unfold fl lkI; rw [if_neg h, if_neg (by omega), if_pos rfl])
      rw [e]
      exact ⟨by simp, fun _ => rfl⟩
theorem text_reads (w : World) (h : ByteArray) : ReadsT (w.alloc (.cells #[.string h] 9)) (.slice (some ⟨w.heap.size, 0, none⟩) 1 1) [h] :=
  ⟨_, 1, rfl, Nat.le_refl _, .inr ⟨w.heap.size, 0, rfl, fun i hi => by
    obtain rfl : i = 0 := by simp at hi; omega
    rw [World.cell?_alloc_at _ _ _ _ rfl]; rfl⟩⟩
set_option maxHeartbeats 1600000 in
theorem leadsC (wd : Int) (i n : Nat) (hash : ByteArray) (v : Value) (path : List ByteArray) (h1 : i < n) (hn : n ≤ 4611686018427387904) (w : World) (hR : ReadsT w v path) (hT : Tab w) (hw : hash.size = wid wd) (hp : Wide wd path) (hl : path.length = cI i n) :
    Calls Tryz.prog 81 #[.int .i64 wd, .int .i64 i, .int .i64 n, .string hash, v] w fun e w' => e = .returned (.string (ldP wd i n hash path)) ∧ (ldP wd i n hash path).size = wid wd ∧ Below w.heap.size w w' := by
  have IC : Hid (∀ w, Calls _ _ _ _ _) := fun w => inclusionC i w
  have B1 : Hid (Below w.heap.size w (w.alloc (.cells #[.string hash] 9))) := (Below.refl _ _).alloc (Nat.le_refl _) _
  have s1 : (w.alloc (.cells #[.string hash] 9)).heap.size = w.heap.size + 1 := by simp
  have R0 := Old.of (text_reads w hash)
  have R1 := Old.of (hR.later B1.out)
  rw [s1] at R0 R1
  obtain ⟨pa, pc, rfl, _⟩ := hR
  obtain ⟨l, HL⟩ : ∃ l, Hid (path.length = l) := ⟨_, rfl⟩
  obtain ⟨W0, HW0⟩ : ∃ W, Hid (W = w.alloc (.cells #[.string hash] 9)) := ⟨_, rfl⟩
  have HB : Hid (3 ≤ w.heap.size + 1) := Nat.le_trans hT.big (Nat.le_succ _)
  have RC : Hid (∀ w4, w4 = (((w.alloc (.cells #[.string hash] 9)).alloc (.cells #[.slice (some ⟨w.heap.size, 0, none⟩) 1 1] 90)).alloc (.cells #[.slice pa path.length pc] 90)).alloc (.cells #[.int .i64 i] 3) → Calls Tryz.prog 68 #[.int .i64 wd, .int .i64 n, .func (.func 132) #[] #[.pointer (some ⟨w.heap.size + 1 + 1 + 1, 0, none⟩)], .func (.func 69) #[.pointer (some ⟨w.heap.size + 1, 0, none⟩)] #[], .func (.func 69) #[.pointer (some ⟨w.heap.size + 1 + 1, 0, none⟩)] #[]] w4 fun e w' => e = .returned (.string (ldP wd i n hash path)) ∧ (ldP wd i n hash path).size = wid wd ∧ Below w.heap.size w w') := by
    intro w4 hw4
    obtain ⟨w1, e1⟩ : ∃ x, x = w.alloc (.cells #[.string hash] 9) := ⟨_, rfl⟩
    obtain ⟨w2, e2⟩ : ∃ x, x = w1.alloc (.cells #[.slice (some ⟨w.heap.size, 0, none⟩) 1 1] 90) := ⟨_, rfl⟩
    obtain ⟨w3, e3⟩ : ∃ x, x = w2.alloc (.cells #[.slice pa path.length pc] 90) := ⟨_, rfl⟩
    rw [← e1] at R0 R1 hw4 s1 B1
    rw [← e2, ← e3] at hw4
    have s2 : w2.heap.size = w.heap.size + 1 + 1 := by rw [e2]; simp [s1]
    have s3 : w3.heap.size = w.heap.size + 1 + 1 + 1 := by rw [e3]; simp [s2]
    have b2 : Below w1.heap.size w1 w2 := by rw [e2]; exact (Below.refl _ _).alloc (Nat.le_refl _) _
    have b3 : Below w2.heap.size w2 w3 := by rw [e3]; exact (Below.refl _ _).alloc (Nat.le_refl _) _
    have b4 : Below w3.heap.size w3 w4 := by rw [hw4]; exact (Below.refl _ _).alloc (Nat.le_refl _) _
    have n2 : w2.heap[w.heap.size + 1]? = some (.cells #[.slice (some ⟨w.heap.size, 0, none⟩) 1 1] 90 (0, 0)) := by rw [← s1, e2]; exact heap_alloc_new w1 _
    have n3 : w3.heap[w.heap.size + 1 + 1]? = some (.cells #[.slice pa path.length pc] 90 (0, 0)) := by rw [← s2, e3]; exact heap_alloc_new w2 _
    have c3 : w3.heap[w.heap.size + 1]? = _ := (b3.block _ (by rw [s2]; omega)).trans n2
    have c4 : w4.heap[w.heap.size + 1]? = _ := (b4.block _ (by rw [s3]; omega)).trans c3
    have p4 : w4.heap[w.heap.size + 1 + 1]? = _ := (b4.block _ (by rw [s3]; omega)).trans n3
    have kk : Kp no w1 w4 := ((Kp.of_below b2).trans (Kp.of_below b3)).trans (Kp.of_below b4)
    have i4 : w4.cell? ⟨w.heap.size + 1 + 1 + 1, 0, none⟩ = some (.int .i64 i) := by rw [← s3, hw4, World.cell?_alloc_at _ _ _ _ rfl]; rfl
    have hb14 : Below w.heap.size w w4 := over (over (over B1.out b2) b3) b4
    have sz : w.heap.size + 1 ≤ w4.heap.size := by have := kk.size; omega
    refine (reckonC (ShI (w.heap.size + 1 + 1 + 1) i) wd n (w.heap.size + 1) (w.heap.size + 1) (w.heap.size + 1 + 1) [hash] path (by omega) hn w4 i4 ⟨Nat.le_refl _, _, c4, R0.keep kk (fun _ e => e.elim)⟩ ⟨by omega, _, p4, R1.keep kk (fun _ e => e.elim)⟩ (hT.down hb14) HB.out sz (by omega) (by omega) (by omega) (fun b e => e.elim) (claims i n 0 n rfl (by omega)).1 (by rw [cI_is h1, hl]; exact Nat.le_refl _) (fun x hx => by simp only [List.mem_cons, List.not_mem_nil, or_false] at hx; rw [hx]; exact hw) hp).mono fun e w' hh => ⟨hh.1, hh.2.1, ?_⟩
    exact hb14.trans (hh.2.2.mono (by omega))
  rw [HL.out] at RC ⊢
  clear R0 R1 hT hw hp hl B1 s1
  go_enter Tryz.func81, Tryz.ntmps81
  go_wp2_with fail
  refine (IC.out _).mono ?_
  rintro e w4 ⟨rfl, hw4⟩
  have RC4 : Hid (Calls _ _ _ _ _) := RC.out w4 hw4
  clear hw4
  go_wp2_with fail
  refine RC4.out.mono ?_
  rintro e w5 ⟨rfl, hz5, hb5⟩
  have H5 : Hid (_ ∧ Below w.heap.size w w5) := ⟨hz5, hb5⟩
  clear hz5 hb5
  go_wp2
  go_ret
  exact ⟨rfl, H5.out.1, H5.out.2⟩
-- what is refused of an inclusion
def incR (wd i n : Int) (path others : List ByteArray) : Int := if (cnt9 1 i 0 n []).2 = 0 then rH wd (cnt9 1 i 0 n []).1 path others else (cnt9 1 i 0 n []).2
theorem reads_nilI (w : World) : ReadsI w (.slice none 0 0) [] := ⟨none, 0, rfl, Nat.le_refl _, .inl rfl⟩
theorem refI (wd i n : Int) (hwd : i64 wd) (vp vo : Value) (path others : List ByteArray) (w : World) (hp : ReadsT w vp path) (ho : ReadsT w vo others) (zp : path.length ≤ 140737488355328) (zo : others.length ≤ 140737488355328) :
    Calls Tryz.prog 80 #[.int .i64 wd, .int .i64 i, .int .i64 n, vp, vo] w fun e w' => e = .returned (.int .i64 (incR wd i n path others)) ∧ Below w.heap.size w w' := by
  have CC : Hid (Calls _ _ _ _ _) := countC 1 i 0 n (.slice none 0 0) [] w (reads_nilI w) (by simp)
  have RH : Hid (∀ w, ReadsT w vp path → ReadsT w vo others → Calls _ _ _ _ _) := fun w h1 h2 => refuseH wd hwd (cnt9 1 i 0 n []).1 vp vo path others w h1 h2 zp zo
  have HR : Hid (ReadsT w vp path ∧ ReadsT w vo others) := ⟨hp, ho⟩
  obtain ⟨pa, pc, rfl, _⟩ := hp
  obtain ⟨oa, oc, rfl, _⟩ := ho
  unfold incR
  obtain ⟨c, HC⟩ : ∃ c, Hid (cnt9 1 i 0 n [] = c) := ⟨_, rfl⟩
  rw [HC.out] at CC RH ⊢
  obtain ⟨c1, c2⟩ := c
  by_cases h : c2 = 0
  · subst h
    rw [if_pos rfl]
    obtain ⟨r, HRR⟩ : ∃ r, Hid (rH wd c1 path others = r) := ⟨_, rfl⟩
    simp only at RH ⊢
    rw [HRR.out] at RH ⊢
    go_enter Tryz.func80, Tryz.ntmps80
    go_wp2_with fail
    refine CC.out.mono ?_
    rintro e w1 ⟨rfl, hb1⟩
    have B1 : Hid (Below w.heap.size w w1) := hb1
    clear hb1
    go_wp2_with fail
    refine (RH.out _ (HR.out.1.later B1.out) (HR.out.2.later B1.out)).mono ?_
    rintro e w2 ⟨rfl, hw⟩
    subst hw
    go_wp2
    go_ret
    exact ⟨rfl, B1.out⟩
  · rw [if_neg h]
    have q : (c2 == 0) = false := by rw [beq_eq_false_iff_ne]; exact h
    clear h
    go_enter Tryz.func80, Tryz.ntmps80
    go_wp2_with fail
    refine CC.out.mono ?_
    rintro e w1 ⟨rfl, hb1⟩
    have B1 : Hid (Below w.heap.size w w1) := hb1
    clear hb1
    go_wp2
    go_ret
    exact ⟨rfl, B1.out⟩
-- if nothing is refused
theorem incR_ok {wd i n : Int} {path others : List ByteArray} (h : incR wd i n path others = 0) : ∃ I N : Nat, i = I ∧ n = N ∧ I < N ∧ N ≤ 4611686018427387904 ∧ path.length = cI I N ∧ Wide wd path ∧ Wide wd others := by
  unfold incR at h
  by_cases h0 : ref9 1 i 0 n [] = 0
  · have hc : cnt9 1 i 0 n [] = (((num9 1 i 0 n [] : Nat) : Int), 0) := by unfold cnt9; rw [if_pos h0]
    rw [hc, if_pos rfl] at h
    unfold ref9 at h0
    rw [if_neg (by omega)] at h0
    by_cases k2 : n < 0 ∨ 4611686018427387904 < n
    · rw [if_pos k2] at h0; omega
    rw [if_neg k2, if_pos rfl] at h0
    by_cases g : i < 0 ∨ n ≤ i
    · rw [if_pos g] at h0; omega
    obtain ⟨I, rfl⟩ : ∃ A : Nat, i = A := ⟨i.toNat, by omega⟩
    obtain ⟨N, rfl⟩ : ∃ A : Nat, n = A := ⟨n.toNat, by omega⟩
    unfold rH at h
    unfold num9 at h
    rw [if_pos rfl, Int.toNat_natCast, Int.toNat_natCast, cI_is (by omega)] at h
    by_cases q : (okH wd others && okH wd path) = true
    · rw [if_pos q] at h
      rw [Bool.and_eq_true] at q
      by_cases q2 : (path.length : Int) = ((cI I N : Nat) : Int)
      · exact ⟨I, N, rfl, rfl, by omega, by omega, by omega, okH_wide q.2, okH_wide q.1⟩
      · rw [if_neg q2] at h; omega
    · rw [if_neg q] at h; omega
  · have hc : cnt9 1 i 0 n [] = (0, ref9 1 i 0 n []) := by unfold cnt9; rw [if_neg h0]
    rw [hc] at h
    simp only at h
    rw [if_neg h0] at h
    exact absurd h h0
def leadA (wd i n : Int) (hash : ByteArray) (path : List ByteArray) : ByteArray × Int := if incR wd i n path [hash] = 0 then (ldP wd i.toNat n.toNat hash path, 0) else (ByteArray.empty, incR wd i n path [hash])
def incA (wd i n : Int) (hash : ByteArray) (path : List ByteArray) (root : ByteArray) : Int := if incR wd i n path [hash, root] = 0 then (if ldP wd i.toNat n.toNat hash path = root then 0 else 90) else incR wd i n path [hash, root]
theorem two_reads (w : World) (h r : ByteArray) : ReadsT (w.alloc (.cells #[.string h, .string r] 9)) (.slice (some ⟨w.heap.size, 0, none⟩) 2 2) [h, r] :=
  ⟨_, 2, rfl, Nat.le_refl _, .inr ⟨w.heap.size, 0, rfl, fun i hi => by
    rw [World.cell?_alloc_at _ _ _ _ rfl]
    have hi2 : i < 2 := by simpa using hi
    rcases (show i = 0 ∨ i = 1 by omega) with rfl | rfl <;> rfl⟩⟩
set_option maxHeartbeats 1600000 in
theorem InclC (wd i n : Int) (hwd : i64 wd) (hash : ByteArray) (vp : Value) (path : List ByteArray) (root : ByteArray) (w : World) (hp : ReadsT w vp path) (zp : path.length ≤ 140737488355328) (hT : Tab w) :
    Calls Tryz.prog 44 #[.int .i64 wd, .int .i64 i, .int .i64 n, .string hash, vp, .string root] w fun e w' => e = .returned (.int .i64 (incA wd i n hash path root)) ∧ Below w.heap.size w w' := by
  have B1 : Hid (Below w.heap.size w (w.alloc (.cells #[.string hash, .string root] 9))) := (Below.refl _ _).alloc (Nat.le_refl _) _
  have RC : Hid (Calls _ _ _ _ _) := refI wd i n hwd vp _ path [hash, root] _ (hp.later B1.out) (two_reads w hash root) zp (by simp)
  have HP : Hid (ReadsT w vp path ∧ Tab w) := ⟨hp, hT⟩
  have hp2 := hp
  obtain ⟨pa, pc, rfl, _⟩ := hp
  unfold incA
  by_cases h : incR wd i n path [hash, root] = 0
  · obtain ⟨I, N, rfl, rfl, q1, q2, q3, q4, q5⟩ := incR_ok h
    have LC : Hid (∀ w', Below w.heap.size w w' → Calls _ _ _ _ _) := fun w' hb => leadsC wd I N hash _ path q1 q2 w' (HP.out.1.later hb) (HP.out.2.down hb) (q5 hash (by simp)) q4 q3
    rw [if_pos h, Int.toNat_natCast, Int.toNat_natCast]
    rw [h] at RC
    obtain ⟨x, HX⟩ : ∃ x, Hid (ldP wd I N hash path = x) := ⟨_, rfl⟩
    rw [HX.out] at LC ⊢
    have MC : Hid (∀ w, Calls _ _ _ _ _) := fun w => matchC x root w
    obtain ⟨y, HY⟩ : ∃ y : Int, Hid ((if x = root then 0 else 90) = y) := ⟨_, rfl⟩
    rw [HY.out] at MC ⊢
    obtain ⟨l, HL⟩ : ∃ l, Hid (path.length = l) := ⟨_, rfl⟩
    rw [HL.out] at RC LC HP ⊢
    clear h q1 q2 q3 q4 q5 hp2 zp
    go_enter Tryz.func44, Tryz.ntmps44
    go_wp2_with fail
    refine RC.out.mono ?_
    rintro e w1 ⟨rfl, hb1⟩
    have B2 : Hid (Below w.heap.size w w1) := over B1.out hb1
    clear hb1
    go_wp2_with fail
    refine (LC.out _ B2.out).mono ?_
    rintro e w2 ⟨rfl, _, hb2⟩
    have B3 : Hid (Below w.heap.size w w2) := over B2.out hb2
    clear hb2
    go_wp2_with fail
    refine (MC.out _).mono ?_
    rintro e w3 ⟨rfl, hw⟩
    subst hw
    go_wp2
    go_ret
    exact ⟨rfl, B3.out⟩
  · rw [if_neg h]
    have q : (incR wd i n path [hash, root] == 0) = false := by rw [beq_eq_false_iff_ne]; exact h
    obtain ⟨r, HX⟩ : ∃ x, Hid (incR wd i n path [hash, root] = x) := ⟨_, rfl⟩
    rw [HX.out] at RC q ⊢
    obtain ⟨l, HL⟩ : ∃ l, Hid (path.length = l) := ⟨_, rfl⟩
    rw [HL.out] at RC ⊢
    clear h hp2 zp HP
    go_enter Tryz.func44, Tryz.ntmps44
    go_wp2_with fail
    refine RC.out.mono ?_
    rintro e w1 ⟨rfl, hb1⟩
    have B2 : Hid (Below w.heap.size w w1) := over B1.out hb1
    clear hb1
    go_wp2
    go_ret
    exact ⟨rfl, B2.out⟩
end Go.Proofs.YtfaalpdeabdhcaaGreatDoor.qd

namespace Go.Proofs.YtfaalpdeabdhcaaGreatDoor.qj
open Go.RowKit Go.PlainAid
open Go.Proofs.YtfaalpdeabdhcaaGreatDoor.pl Go.Proofs.YtfaalpdeabdhcaaGreatDoor.pi Go.Proofs.YtfaalpdeabdhcaaGreatDoor.pj Go.Proofs.YtfaalpdeabdhcaaGreatDoor.rf Go.Proofs.YtfaalpdeabdhcaaGreatDoor.ca Go.Proofs.YtfaalpdeabdhcaaGreatDoor.cb Go.Proofs.YtfaalpdeabdhcaaGreatDoor.cp Go.Proofs.YtfaalpdeabdhcaaGreatDoor.ga Go.Proofs.YtfaalpdeabdhcaaGreatDoor.aa Go.Proofs.YtfaalpdeabdhcaaGreatDoor.ka Go.Proofs.YtfaalpdeabdhcaaGreatDoor.kb Go.Proofs.YtfaalpdeabdhcaaGreatDoor.kp Go.Proofs.YtfaalpdeabdhcaaGreatDoor.mi Go.Proofs.YtfaalpdeabdhcaaGreatDoor.lm Go.Proofs.YtfaalpdeabdhcaaGreatDoor.co Go.Proofs.YtfaalpdeabdhcaaGreatDoor.dc Go.Proofs.YtfaalpdeabdhcaaGreatDoor.qa Go.Proofs.YtfaalpdeabdhcaaGreatDoor.qb Go.Proofs.YtfaalpdeabdhcaaGreatDoor.qc
set_option linter.unusedVariables false

theorem headD_drop (l : List ByteArray) (u : Nat) : (l.drop u).headD ByteArray.empty = l.getD u ByteArray.empty := by
  rw [List.headD_eq_head?_getD, List.head?_drop, List.getD_eq_getElem?_getD]
theorem WL_congr {lk lk' : Nat → Nat → Nat} (n : Nat) : ∀ a b, b - a = n → (∀ c d, a ≤ c → c < d → d ≤ b → lk c d = lk' c d) → a < b → WL lk a b = WL lk' a b := by
  induction n using Nat.strongRecOn with
  | ind n ih =>
    intro a b hn h hab
    have e := h a b (Nat.le_refl _) hab (Nat.le_refl _)
    by_cases h0 : lk a b = 0
    · rw [WL_pass h0, WL_pass (by rw [← e]; exact h0)]
    by_cases h1 : lk a b = 1
    · rw [WL_take h1, WL_take (by rw [← e]; exact h1)]
    by_cases h2 : 2 ≤ b - a
    · have hh := half_lt h2
      have i1 := ih (half (b - a)) (by omega) a (a + half (b - a)) (by omega) (fun c d q1 q2 q3 => h c d q1 q2 (by omega)) (by omega)
      have i2 := ih (b - a - half (b - a)) (by omega) (a + half (b - a)) b (by omega) (fun c d q1 q2 q3 => h c d (by omega) q2 q3) (by omega)
      by_cases h3 : lk a b = 2
      · rw [WL_left h3 h2, WL_left (by rw [← e]; exact h3) h2, i1, i2]
      · rw [WL_right (by omega) h2, WL_right (by rw [← e]; omega) h2, i1, i2]
    · rw [WL, if_neg h0, if_neg h1, dif_neg h2, WL, if_neg (by rw [← e]; exact h0), if_neg (by rw [← e]; exact h1), dif_neg h2]
theorem fl_congr {lk lk' : Nat → Nat → Nat} {a b : Nat} (h : lk a b = lk' a b) : fl lk a b = fl lk' a b := by unfold fl; rw [h]
-- what is reckoned, without the shape's mind
def gp (wd : Int) (lk : Nat → Nat → Nat) (c p : List ByteArray) (a b : Nat) : ByteArray × List ByteArray × List ByteArray :=
  if lk a b = 0 then (c.headD ByteArray.empty, c.drop 1, p)
  else if lk a b = 1 then (p.headD ByteArray.empty, c, p.drop 1)
  else if h : 2 ≤ b - a then
    if lk a b = 2 then
      (NF wd (gp wd lk c p a (a + half (b - a))).1 (gp wd lk (gp wd lk c p a (a + half (b - a))).2.1 (gp wd lk c p a (a + half (b - a))).2.2 (a + half (b - a)) b).1, (gp wd lk (gp wd lk c p a (a + half (b - a))).2.1 (gp wd lk c p a (a + half (b - a))).2.2 (a + half (b - a)) b).2)
    else
      (NF wd (gp wd lk (gp wd lk c p (a + half (b - a)) b).2.1 (gp wd lk c p (a + half (b - a)) b).2.2 a (a + half (b - a))).1 (gp wd lk c p (a + half (b - a)) b).1, (gp wd lk (gp wd lk c p (a + half (b - a)) b).2.1 (gp wd lk c p (a + half (b - a)) b).2.2 a (a + half (b - a))).2)
  else (c.headD ByteArray.empty, c.drop 1, p)
termination_by b - a
decreasing_by all_goals (have := half_lt h; omega)
theorem gp_claim {wd : Int} {lk : Nat → Nat → Nat} {c p : List ByteArray} {a b : Nat} (h : lk a b = 0) : gp wd lk c p a b = (c.headD ByteArray.empty, c.drop 1, p) := by rw [gp, if_pos h]
theorem gp_proof {wd : Int} {lk : Nat → Nat → Nat} {c p : List ByteArray} {a b : Nat} (h : lk a b = 1) : gp wd lk c p a b = (p.headD ByteArray.empty, c, p.drop 1) := by rw [gp, if_neg (by omega), if_pos h]
theorem gp_left {wd : Int} {lk : Nat → Nat → Nat} {c p : List ByteArray} {a b : Nat} (h : lk a b = 2) (h2 : 2 ≤ b - a) : gp wd lk c p a b = (NF wd (gp wd lk c p a (a + half (b - a))).1 (gp wd lk (gp wd lk c p a (a + half (b - a))).2.1 (gp wd lk c p a (a + half (b - a))).2.2 (a + half (b - a)) b).1, (gp wd lk (gp wd lk c p a (a + half (b - a))).2.1 (gp wd lk c p a (a + half (b - a))).2.2 (a + half (b - a)) b).2) := by rw [gp, if_neg (by omega), if_neg (by omega), dif_pos h2, if_pos h]
theorem gp_right {wd : Int} {lk : Nat → Nat → Nat} {c p : List ByteArray} {a b : Nat} (h : 3 ≤ lk a b) (h2 : 2 ≤ b - a) : gp wd lk c p a b = (NF wd (gp wd lk (gp wd lk c p (a + half (b - a)) b).2.1 (gp wd lk c p (a + half (b - a)) b).2.2 a (a + half (b - a))).1 (gp wd lk c p (a + half (b - a)) b).1, (gp wd lk (gp wd lk c p (a + half (b - a)) b).2.1 (gp wd lk c p (a + half (b - a)) b).2.2 a (a + half (b - a))).2) := by rw [gp, if_neg (by omega), if_neg (by omega), dif_pos h2, if_neg (by omega)]
theorem gp_odd {wd : Int} {lk : Nat → Nat → Nat} {c p : List ByteArray} {a b : Nat} (h : 2 ≤ lk a b) (h2 : ¬ 2 ≤ b - a) : gp wd lk c p a b = (c.headD ByteArray.empty, c.drop 1, p) := by rw [gp, if_neg (by omega), if_neg (by omega), dif_neg h2]
theorem go_gp (wd : Int) (lk : Nat → Nat → Nat) (cur : Nat → Nat) (n : Nat) : ∀ a b x c p, b - a = n → (go (WS wd lk cur) (x, c, p) a b).1 = (gp wd lk c p a b).1 ∧ (go (WS wd lk cur) (x, c, p) a b).2.2 = (gp wd lk c p a b).2 := by
  induction n using Nat.strongRecOn with
  | ind n ih =>
    intro a b x c p hn
    have z : (WS wd lk cur).lk (x, c, p) a b = (lk a b, (if lk a b < 2 then cur b else x), c, p) := rfl
    generalize hy : (if lk a b < 2 then cur b else x) = y at z
    by_cases h0 : lk a b = 0
    · rw [go_stop (by rw [z]; show lk a b < 2; omega), z, gp_claim h0]
      show ((WS wd lk cur).hv (y, c, p) a b (lk a b)).1 = _ ∧ _
      rw [h0]
      exact ⟨rfl, rfl⟩
    by_cases h1 : lk a b = 1
    · rw [go_stop (by rw [z]; show lk a b < 2; omega), z, gp_proof h1]
      show ((WS wd lk cur).hv (y, c, p) a b (lk a b)).1 = _ ∧ _
      rw [h1]
      exact ⟨rfl, rfl⟩
    by_cases h2 : 2 ≤ b - a
    · have hh := half_lt h2
      by_cases h3 : lk a b = 2
      · obtain ⟨l1, l2⟩ := ih (half (b - a)) (by omega) a (a + half (b - a)) y c p (by omega)
        obtain ⟨r1, r2⟩ := ih (b - a - half (b - a)) (by omega) (a + half (b - a)) b (go (WS wd lk cur) (y, c, p) a (a + half (b - a))).2.1 (go (WS wd lk cur) (y, c, p) a (a + half (b - a))).2.2.1 (go (WS wd lk cur) (y, c, p) a (a + half (b - a))).2.2.2 (by omega)
        rw [go_left (by rw [z]; exact h3) h2, gp_left h3 h2, z]
        rw [← l2]
        exact ⟨(congrArg (fun q => NF wd q _) l1).trans (congrArg (NF wd _) r1), r2⟩
      · obtain ⟨l1, l2⟩ := ih (b - a - half (b - a)) (by omega) (a + half (b - a)) b y c p (by omega)
        obtain ⟨r1, r2⟩ := ih (half (b - a)) (by omega) a (a + half (b - a)) (go (WS wd lk cur) (y, c, p) (a + half (b - a)) b).2.1 (go (WS wd lk cur) (y, c, p) (a + half (b - a)) b).2.2.1 (go (WS wd lk cur) (y, c, p) (a + half (b - a)) b).2.2.2 (by omega)
        rw [go_right (by rw [z]; show 3 ≤ lk a b; omega) h2, gp_right (by omega) h2, z]
        rw [← l2]
        exact ⟨(congrArg (fun q => NF wd q _) r1).trans (congrArg (NF wd _) l1), r2⟩
    · rw [go, if_neg (by rw [z]; show ¬ lk a b < 2; omega), dif_neg h2, z, gp_odd (by omega) h2]
      exact ⟨rfl, rfl⟩
theorem gp_state (wd : Int) {lk : Nat → Nat → Nat} (hw : ∀ {a b}, a < b → 2 ≤ lk a b → 2 ≤ b - a) (hf : ∀ a b, lk a b ≤ 3) {a b : Nat} (hab : a < b) (c p : List ByteArray) : (gp wd lk c p a b).2 = (c.drop (WL (fl lk) a b).length, p.drop (WL lk a b).length) := by
  rw [← (go_gp wd lk (fun _ => 0) (b - a) a b 0 c p rfl).2, go_state wd hw hf (cur := fun _ => 0) (fun _ _ => rfl) (b - a) a b c p rfl hab]
theorem gp_congr (wd : Int) {lk lk' : Nat → Nat → Nat} (n : Nat) : ∀ a b c p, b - a = n → (∀ c d, a ≤ c → c < d → d ≤ b → lk c d = lk' c d) → a < b → gp wd lk c p a b = gp wd lk' c p a b := by
  induction n using Nat.strongRecOn with
  | ind n ih =>
    intro a b c p hn h hab
    have e := h a b (Nat.le_refl _) hab (Nat.le_refl _)
    by_cases h0 : lk a b = 0
    · rw [gp_claim h0, gp_claim (by rw [← e]; exact h0)]
    by_cases h1 : lk a b = 1
    · rw [gp_proof h1, gp_proof (by rw [← e]; exact h1)]
    by_cases h2 : 2 ≤ b - a
    · have hh := half_lt h2
      have i1 := fun c p => ih (half (b - a)) (by omega) a (a + half (b - a)) c p (by omega) (fun c d q1 q2 q3 => h c d q1 q2 (by omega)) (by omega)
      have i2 := fun c p => ih (b - a - half (b - a)) (by omega) (a + half (b - a)) b c p (by omega) (fun c d q1 q2 q3 => h c d (by omega) q2 q3) (by omega)
      by_cases h3 : lk a b = 2
      · rw [gp_left h3 h2, gp_left (by rw [← e]; exact h3) h2, i1, i2]
      · rw [gp_right (by omega) h2, gp_right (by rw [← e]; omega) h2, i2, i1]
    · rw [gp_odd (by omega) h2, gp_odd (by rw [← e]; omega) h2]
theorem lkM_congr {ps qs : List Nat} {c d : Nat} (h : ∀ p, c ≤ p → p < d → (p ∈ ps ↔ p ∈ qs)) : lkM ps c d = lkM qs c d := by
  unfold lkM
  have e : (∃ p ∈ ps, c ≤ p ∧ p < d) ↔ (∃ p ∈ qs, c ≤ p ∧ p < d) := ⟨fun ⟨p, h1, h2, h3⟩ => ⟨p, (h p h2 h3).1 h1, h2, h3⟩, fun ⟨p, h1, h2, h3⟩ => ⟨p, (h p h2 h3).2 h1, h2, h3⟩⟩
  by_cases g : ∃ p ∈ ps, c ≤ p ∧ p < d
  · rw [if_pos g, if_pos (e.1 g)]
  · rw [if_neg g, if_neg (fun x => g (e.2 x))]
theorem wideM {ps : List Nat} {a b : Nat} (hab : a < b) (h : 2 ≤ lkM ps a b) : 2 ≤ b - a := by
  unfold lkM at h
  split at h
  · split at h <;> omega
  · omega
theorem fourM (ps : List Nat) (a b : Nat) : lkM ps a b ≤ 3 := by
  unfold lkM
  split
  · split <;> omega
  · omega
end Go.Proofs.YtfaalpdeabdhcaaGreatDoor.qj

namespace Go.Proofs.YtfaalpdeabdhcaaGreatDoor.qg
open Go.RowKit Go.PlainAid
open Go.Proofs.YtfaalpdeabdhcaaGreatDoor.pl Go.Proofs.YtfaalpdeabdhcaaGreatDoor.pi Go.Proofs.YtfaalpdeabdhcaaGreatDoor.pj Go.Proofs.YtfaalpdeabdhcaaGreatDoor.rf Go.Proofs.YtfaalpdeabdhcaaGreatDoor.ca Go.Proofs.YtfaalpdeabdhcaaGreatDoor.cb Go.Proofs.YtfaalpdeabdhcaaGreatDoor.cp Go.Proofs.YtfaalpdeabdhcaaGreatDoor.ga Go.Proofs.YtfaalpdeabdhcaaGreatDoor.aa Go.Proofs.YtfaalpdeabdhcaaGreatDoor.ka Go.Proofs.YtfaalpdeabdhcaaGreatDoor.kb Go.Proofs.YtfaalpdeabdhcaaGreatDoor.kc Go.Proofs.YtfaalpdeabdhcaaGreatDoor.kp Go.Proofs.YtfaalpdeabdhcaaGreatDoor.lk Go.Proofs.YtfaalpdeabdhcaaGreatDoor.lm Go.Proofs.YtfaalpdeabdhcaaGreatDoor.mi Go.Proofs.YtfaalpdeabdhcaaGreatDoor.co Go.Proofs.YtfaalpdeabdhcaaGreatDoor.cn Go.Proofs.YtfaalpdeabdhcaaGreatDoor.wt Go.Proofs.YtfaalpdeabdhcaaGreatDoor.qa Go.Proofs.YtfaalpdeabdhcaaGreatDoor.qb Go.Proofs.YtfaalpdeabdhcaaGreatDoor.qc
set_option linter.unusedVariables false

-- how many leaves are claimed
theorem claimsM {xs : List Int} (hr : Ris xs) (n : Nat) : ∀ a b, b - a = n → a < b → (WL (fl (lkM (natL xs))) a b).length + cnt xs a = cnt xs b := by
  induction n using Nat.strongRecOn with
  | ind n ih =>
    intro a b hn hab
    by_cases h : cnt xs a = xs.length ∨ (b : Int) ≤ xs.getD (cnt xs a) 0
    · rw [WL_pass (lk := fl (lkM (natL xs))) (by unfold fl; rw [lkM_none hr h, if_neg (by omega), if_pos rfl]), cnt_none hr hab h]
      simp
    · have h1 : cnt xs a < xs.length := by have := cnt_le xs a; omega
      have h2 : xs.getD (cnt xs a) 0 < b := by omega
      have hk := lkM_some hr h1 h2
      by_cases h3 : b - a = 1
      · rw [if_pos h3] at hk
        rw [WL_take (lk := fl (lkM (natL xs))) (by unfold fl; rw [if_pos hk]), cnt_leaf hr h1 h2 h3]
        simp; omega
      · rw [if_neg h3] at hk
        have h4 : 2 ≤ b - a := by omega
        have hh := half_lt h4
        have i1 := ih (half (b - a)) (by omega) a (a + half (b - a)) (by omega) (by omega)
        have i2 := ih (b - a - half (b - a)) (by omega) (a + half (b - a)) b (by omega) (by omega)
        rw [WL_left (lk := fl (lkM (natL xs))) (by rw [fl_two (by omega)]; exact hk) h4, List.length_append]
        omega
theorem cnt_all {xs : List Int} (hr : Ris xs) {n : Nat} (h : ∀ j, j < xs.length → xs.getD j 0 < n) : cnt xs n = xs.length := cnt_is hr (Nat.le_refl _) h (fun j h1 h2 => by omega)
theorem text_reads (w : World) (h : ByteArray) : ReadsT (w.alloc (.cells #[.string h] 9)) (.slice (some ⟨w.heap.size, 0, none⟩) 1 1) [h] :=
  ⟨_, 1, rfl, Nat.le_refl _, .inr ⟨w.heap.size, 0, rfl, fun i hi => by
    obtain rfl : i = 0 := by simp at hi; omega
    rw [World.cell?_alloc_at _ _ _ _ rfl]; rfl⟩⟩
-- what is reckoned from leaves and a proof
def rk (wd : Int) (lk : Nat → Nat → Nat) (cur : Nat → Nat) (n : Nat) (hs proof : List ByteArray) : ByteArray := (go (WS wd lk cur) (cur 0, hs, proof) 0 n).1
def lookA (wd : Int) (lk : Nat → Nat → Nat) (cur : Nat → Nat) (n : Nat) (count : Int) (hs proof : List ByteArray) (root : ByteArray) : Int :=
  if okH wd hs = true then (if rH wd count proof [root] = 0 then (if rk wd lk cur n hs proof = root then 0 else 90) else rH wd count proof [root]) else 72
section
variable {D F : Nat → Prop} {SS : Nat → World → Prop} {lk : Nat → Nat → Nat} {cur : Nat → Nat} {lg : Nat} {lv : Array Value}
set_option maxHeartbeats 3200000 in
theorem lookC (S : Shp D F SS lk cur lg lv) (wd : Int) (hwd : i64 wd) (n base : Nat) (vh vp : Value) (hs proof : List ByteArray) (root : ByteArray) (h1 : 1 ≤ n) (hn : n ≤ 4611686018427387904) (w : World)
    (hss : SS (cur 0) w) (hR : Old base w vh hs) (hP : Old base w vp proof) (zh : hs.length ≤ 140737488355328) (zp : proof.length ≤ 140737488355328) (hT : Tab w) (hb1 : 3 ≤ base) (hb2 : base ≤ w.heap.size) (hfb : ∀ b, F b → base ≤ b) (hl : (WL (fl lk) 0 n).length ≤ hs.length) :
    Calls Tryz.prog 29 #[.int .i64 wd, .int .i64 n, .int .i64 ((WL lk 0 n).length : Nat), .func (.func lg) #[] lv, vh, vp, .string root] w fun e w' => e = .returned (.int .i64 (lookA wd lk cur n ((WL lk 0 n).length : Nat) hs proof root)) ∧ Below base w w' := by
  have RH : ∀ {v l}, Old base w v l → ReadsT w v l := fun h => by
    obtain ⟨a, cap, rfl, hc, h0 | ⟨g, off, rfl, _, hh⟩⟩ := h
    · exact ⟨a, cap, rfl, hc, .inl h0⟩
    · exact ⟨_, cap, rfl, hc, .inr ⟨g, off, rfl, hh⟩⟩
  have A1 : Hid (Calls _ _ _ _ _) := areC wd hwd vh hs w (RH hR) zh
  have B1 : Hid (Below w.heap.size w (w.alloc (.cells #[.string root] 9))) := (Below.refl _ _).alloc (Nat.le_refl _) _
  obtain ⟨cn, HCN⟩ : ∃ c, Hid ((WL lk 0 n).length = c) := ⟨_, rfl⟩
  have A2 : Hid (Calls _ _ _ _ _) := refuseH wd hwd ((WL lk 0 n).length : Nat) vp _ proof [root] _ ((RH hP).later B1.out) (text_reads w root) zp (by simp)
  have OB : Hid (Old base w vh hs ∧ Old base w vp proof) := ⟨hR, hP⟩
  obtain ⟨ha, hc, rfl, _⟩ := hR
  obtain ⟨pa, pc, rfl, _⟩ := hP
  have RC : Hid (okH wd hs = true → rH wd ((WL lk 0 n).length : Nat) proof [root] = 0 → ∀ w3, w3 = ((w.alloc (.cells #[.string root] 9)).alloc (.cells #[.slice ha hs.length hc] 90)).alloc (.cells #[.slice pa proof.length pc] 90) → Calls Tryz.prog 68 #[.int .i64 wd, .int .i64 n, .func (.func lg) #[] lv, .func (.func 69) #[.pointer (some ⟨w.heap.size + 1, 0, none⟩)] #[], .func (.func 69) #[.pointer (some ⟨w.heap.size + 1 + 1, 0, none⟩)] #[]] w3 fun e w' => e = .returned (.string (rk wd lk cur n hs proof)) ∧ Below base w w') := by
    intro ok1 ok2 w3 hw3
    have hlp : (WL lk 0 n).length ≤ proof.length ∧ Wide wd proof := by
      unfold rH at ok2
      by_cases q : (okH wd [root] && okH wd proof) = true
      · rw [if_pos q] at ok2
        rw [Bool.and_eq_true] at q
        by_cases q2 : (proof.length : Int) = ((WL lk 0 n).length : Nat)
        · exact ⟨by omega, okH_wide q.2⟩
        · rw [if_neg q2] at ok2; omega
      · rw [if_neg q] at ok2; omega
    obtain ⟨w1, e1⟩ : ∃ x, x = w.alloc (.cells #[.string root] 9) := ⟨_, rfl⟩
    obtain ⟨w2, e2⟩ : ∃ x, x = w1.alloc (.cells #[.slice ha hs.length hc] 90) := ⟨_, rfl⟩
    rw [← e1] at hw3 B1
    rw [← e2] at hw3
    have s1 : w1.heap.size = w.heap.size + 1 := by rw [e1]; simp
    have s2 : w2.heap.size = w.heap.size + 1 + 1 := by rw [e2]; simp [s1]
    have b2 : Below w1.heap.size w1 w2 := by rw [e2]; exact (Below.refl _ _).alloc (Nat.le_refl _) _
    have b3 : Below w2.heap.size w2 w3 := by rw [hw3]; exact (Below.refl _ _).alloc (Nat.le_refl _) _
    have n2 : w2.heap[w.heap.size + 1]? = some (.cells #[.slice ha hs.length hc] 90 (0, 0)) := by rw [← s1, e2]; exact heap_alloc_new w1 _
    have n3 : w3.heap[w.heap.size + 1 + 1]? = some (.cells #[.slice pa proof.length pc] 90 (0, 0)) := by rw [← s2, hw3]; exact heap_alloc_new w2 _
    have c3 : w3.heap[w.heap.size + 1]? = _ := (b3.block _ (by rw [s2]; omega)).trans n2
    have hb13 : Below w.heap.size w w3 := over (over B1.out b2) b3
    have kk : Kp no w w3 := Kp.of_below hb13
    refine (reckonC S wd n base (w.heap.size + 1) (w.heap.size + 1 + 1) hs proof h1 hn w3 (S.later hss hb13) ⟨by omega, _, c3, OB.out.1.keep kk (fun _ e => e.elim)⟩ ⟨by omega, _, n3, OB.out.2.keep kk (fun _ e => e.elim)⟩ (hT.down hb13) hb1 (Nat.le_trans hb2 hb13.size) (by omega) (fun e => by have := S.fl hss _ e; omega) (fun e => by have := S.fl hss _ e; omega) hfb hl hlp.1 (okH_wide ok1) hlp.2).mono fun e w' hh => ⟨hh.1, (hb13.mono hb2).trans hh.2.2⟩
  have HB2 : Hid (base ≤ w.heap.size) := hb2
  rw [HCN.out] at A2 RC ⊢
  unfold lookA
  obtain ⟨x, HX⟩ : ∃ x, Hid (okH wd hs = x) := ⟨_, rfl⟩
  rw [HX.out] at A1 RC ⊢
  obtain ⟨lh, HLH⟩ : ∃ l, Hid (hs.length = l) := ⟨_, rfl⟩
  obtain ⟨lp, HLP⟩ : ∃ l, Hid (proof.length = l) := ⟨_, rfl⟩
  rw [HLH.out] at A1 RC ⊢
  rw [HLP.out] at A2 RC ⊢
  have BX : Hid (Below base w (w.alloc (.cells #[.string root] 9))) := B1.out.mono hb2
  clear hss OB zh zp hT hb1 hfb hl RH
  cases x
  · rw [if_neg (by decide)]
    go_enter Tryz.func29, Tryz.ntmps29
    go_wp2_with fail
    refine A1.out.mono ?_
    rintro e w1 ⟨rfl, hw⟩
    subst hw
    go_wp2
    go_ret
    exact ⟨rfl, Below.refl _ _⟩
  · rw [if_pos rfl]
    by_cases h : rH wd cn proof [root] = 0
    · rw [if_pos h]
      have RC2 : Hid (∀ w3, w3 = _ → Calls _ _ _ _ _) := RC.out rfl h
      rw [h] at A2
      obtain ⟨z, HZ⟩ : ∃ z, Hid (rk wd lk cur n hs proof = z) := ⟨_, rfl⟩
      rw [HZ.out] at RC2 ⊢
      have MC : Hid (∀ w, Calls _ _ _ _ _) := fun w => matchC z root w
      obtain ⟨y, HY⟩ : ∃ y : Int, Hid ((if z = root then 0 else 90) = y) := ⟨_, rfl⟩
      rw [HY.out] at MC ⊢
      clear h RC
      go_enter Tryz.func29, Tryz.ntmps29
      go_wp2_with fail
      refine A1.out.mono ?_
      rintro e w1 ⟨rfl, hw⟩
      subst hw
      go_wp2_with fail
      refine A2.out.mono ?_
      rintro e w2 ⟨rfl, hw⟩
      have RC3 : Hid (Calls _ _ _ _ _) := RC2.out ((w2.alloc (.cells #[.slice ha lh hc] 90)).alloc (.cells #[.slice pa lp pc] 90)) (by rw [hw])
      have s2 : w2.heap.size = w1.heap.size + 1 := by rw [hw]; simp
      clear hw
      go_wp2_with fail
      refine RC3.out.mono ?_
      rintro e w4 ⟨rfl, hb4⟩
      have B4 : Hid (Below base w1 w4) := hb4
      clear hb4
      go_wp2_with fail
      refine (MC.out _).mono ?_
      rintro e w5 ⟨rfl, hw⟩
      subst hw
      go_wp2
      go_ret
      exact ⟨rfl, B4.out⟩
    · rw [if_neg h]
      have q : (rH wd cn proof [root] == 0) = false := by rw [beq_eq_false_iff_ne]; exact h
      obtain ⟨r, HRR⟩ : ∃ r, Hid (rH wd cn proof [root] = r) := ⟨_, rfl⟩
      rw [HRR.out] at A2 q ⊢
      clear h RC
      go_enter Tryz.func29, Tryz.ntmps29
      go_wp2_with fail
      refine A1.out.mono ?_
      rintro e w1 ⟨rfl, hw⟩
      subst hw
      go_wp2_with fail
      refine A2.out.mono ?_
      rintro e w2 ⟨rfl, hw⟩
      have B2 : Hid (Below base w1 w2) := by subst hw; exact BX.out
      clear hw
      go_wp2
      go_ret
      exact ⟨rfl, B2.out⟩
end
end Go.Proofs.YtfaalpdeabdhcaaGreatDoor.qg

namespace Go.Proofs.YtfaalpdeabdhcaaGreatDoor.qk
set_option linter.unusedVariables false

def lkS (lo hi a b : Nat) : Nat := if b ≤ lo ∨ hi ≤ a then 1 else if b - a = 1 then 0 else 2
theorem wideS {lo hi a b : Nat} (hab : a < b) (h : 2 ≤ lkS lo hi a b) : 2 ≤ b - a := by
  unfold lkS at h
  split at h
  · omega
  · split at h <;> omega
theorem fourS (lo hi a b : Nat) : lkS lo hi a b ≤ 3 := by
  unfold lkS
  split
  · omega
  · split <;> omega
end Go.Proofs.YtfaalpdeabdhcaaGreatDoor.qk

namespace Go.Proofs.YtfaalpdeabdhcaaGreatDoor.qm
open Go.RowKit Go.PlainAid
open Go.Proofs.YtfaalpdeabdhcaaGreatDoor.pl Go.Proofs.YtfaalpdeabdhcaaGreatDoor.pi Go.Proofs.YtfaalpdeabdhcaaGreatDoor.pj Go.Proofs.YtfaalpdeabdhcaaGreatDoor.rf Go.Proofs.YtfaalpdeabdhcaaGreatDoor.ca Go.Proofs.YtfaalpdeabdhcaaGreatDoor.cb Go.Proofs.YtfaalpdeabdhcaaGreatDoor.cp Go.Proofs.YtfaalpdeabdhcaaGreatDoor.ga Go.Proofs.YtfaalpdeabdhcaaGreatDoor.aa Go.Proofs.YtfaalpdeabdhcaaGreatDoor.ka Go.Proofs.YtfaalpdeabdhcaaGreatDoor.kb Go.Proofs.YtfaalpdeabdhcaaGreatDoor.kp Go.Proofs.YtfaalpdeabdhcaaGreatDoor.lk Go.Proofs.YtfaalpdeabdhcaaGreatDoor.mi Go.Proofs.YtfaalpdeabdhcaaGreatDoor.lm Go.Proofs.YtfaalpdeabdhcaaGreatDoor.co Go.Proofs.YtfaalpdeabdhcaaGreatDoor.cn Go.Proofs.YtfaalpdeabdhcaaGreatDoor.qa Go.Proofs.YtfaalpdeabdhcaaGreatDoor.qb Go.Proofs.YtfaalpdeabdhcaaGreatDoor.qc Go.Proofs.YtfaalpdeabdhcaaGreatDoor.qg Go.Proofs.YtfaalpdeabdhcaaGreatDoor.qj
set_option linter.unusedVariables false

-- what is answered, once the numbers are right
def seen (wd : Int) (lk : Nat → Nat → Nat) (n : Nat) (count : Int) (hs proof : List ByteArray) (root : ByteArray) : Int :=
  if rH wd count proof (root :: hs) = 0 then (if (gp wd lk hs proof 0 n).1 = root then 0 else 90) else rH wd count proof (root :: hs)
theorem okH_cons (wd : Int) (x : ByteArray) (l : List ByteArray) : okH wd (x :: l) = (okH wd [x] && okH wd l) := by
  unfold okH
  simp
theorem seen_is (wd : Int) (lk : Nat → Nat → Nat) (cur : Nat → Nat) (n : Nat) (count : Int) (hs proof : List ByteArray) (root : ByteArray) : lookA wd lk cur n count hs proof root = seen wd lk n count hs proof root := by
  unfold lookA seen rk
  rw [(go_gp wd lk cur n 0 n (cur 0) hs proof rfl).1]
  have e : rH wd count proof (root :: hs) = if okH wd hs = true then rH wd count proof [root] else 72 := by
    unfold rH
    rw [okH_cons wd root hs]
    cases okH wd hs <;> cases okH wd [root] <;> cases okH wd proof <;> rfl
  rw [e]
  by_cases h : okH wd hs = true
  · rw [if_pos h, if_pos h]
  · rw [if_neg h, if_neg h, if_neg (by decide)]
def mulA (wd n : Int) (xs : List Int) (hs proof : List ByteArray) (root : ByteArray) : Int :=
  if (cnt9 4 0 0 n xs).2 = 0 then (if hs.length = xs.length then seen wd (lkM (natL xs)) n.toNat (cnt9 4 0 0 n xs).1 hs proof root else 71) else (cnt9 4 0 0 n xs).2
theorem mul_ok {n : Int} {xs : List Int} (h : (cnt9 4 0 0 n xs).2 = 0) : ∃ N : Nat, n = N ∧ 1 ≤ N ∧ N ≤ 4611686018427387904 ∧ places xs n = 0 ∧ cnt9 4 0 0 n xs = ((((WL (lkM (natL xs)) 0 N).length : Nat) : Int), 0) := by
  by_cases h0 : ref9 4 0 0 n xs = 0
  · have hc : cnt9 4 0 0 n xs = (((num9 4 0 0 n xs : Nat) : Int), 0) := by unfold cnt9; rw [if_pos h0]
    unfold ref9 at h0
    rw [if_neg (by omega)] at h0
    by_cases k2 : n < 0 ∨ 4611686018427387904 < n
    · rw [if_pos k2] at h0; omega
    rw [if_neg k2, if_neg (by omega), if_neg (by omega), if_neg (by omega)] at h0
    obtain ⟨N, rfl⟩ : ∃ A : Nat, n = A := ⟨n.toNat, by omega⟩
    obtain ⟨p1, p2, p3, p4⟩ := places_ok h0
    have := p3 0 (by omega)
    refine ⟨N, rfl, by omega, by omega, h0, ?_⟩
    rw [hc]
    unfold num9
    rw [if_neg (by omega), if_neg (by omega), if_neg (by omega), Int.toNat_natCast]
  · have hc : cnt9 4 0 0 n xs = (0, ref9 4 0 0 n xs) := by unfold cnt9; rw [if_neg h0]
    rw [hc] at h
    exact absurd h h0
set_option maxHeartbeats 3200000 in
theorem MultiC (wd n : Int) (hwd : i64 wd) (v : Value) (xs : List Int) (vh vp : Value) (hs proof : List ByteArray) (root : ByteArray) (w : World) (hv : ReadsI w v xs) (hh : ReadsT w vh hs) (hp : ReadsT w vp proof) (zx : xs.length ≤ 140737488355328) (zh : hs.length ≤ 140737488355328) (zp : proof.length ≤ 140737488355328) (hT : Tab w) :
    Calls Tryz.prog 13 #[.int .i64 wd, .int .i64 n, v, vh, vp, .string root] w fun e w' => e = .returned (.int .i64 (mulA wd n xs hs proof root)) ∧ Below w.heap.size w w' := by
  have CC : Hid (Calls _ _ _ _ _) := countC 4 0 0 n v xs w hv zx
  have OH : Hid (Old w.heap.size w vh hs ∧ Old w.heap.size w vp proof ∧ ReadsI w v xs ∧ Tab w) := ⟨Old.of hh, Old.of hp, hv, hT⟩
  obtain ⟨va, vc, rfl, _⟩ := hv
  obtain ⟨ha, hc, rfl, _⟩ := hh
  obtain ⟨pa, pc, rfl, _⟩ := hp
  unfold mulA
  by_cases h : (cnt9 4 0 0 n xs).2 = 0
  · obtain ⟨N, rfl, n1, n2, n3, n4⟩ := mul_ok h
    rw [if_pos h, Int.toNat_natCast, n4]
    rw [n4] at CC
    simp only at CC ⊢
    have hr := ris_of n3
    obtain ⟨p1, p2, p3, p4⟩ := places_ok n3
    by_cases h2 : hs.length = xs.length
    · rw [if_pos h2]
      have MC : Hid (∀ w, Calls _ _ _ _ _) := fun w => multiC va xs.length vc w
      have LC : Hid (∀ w1, Below w.heap.size w w1 → Calls Tryz.prog 29 #[.int .i64 wd, .int .i64 N, .int .i64 ((WL (lkM (natL xs)) 0 N).length : Nat), .func (.func 77) #[] #[.pointer (some ⟨w1.heap.size, 0, none⟩)], .slice ha hs.length hc, .slice pa proof.length pc, .string root] (w1.alloc (.cells #[.slice va xs.length vc] 33)) fun e w' => e = .returned (.int .i64 (seen wd (lkM (natL xs)) N ((WL (lkM (natL xs)) 0 N).length : Nat) hs proof root)) ∧ Below w.heap.size w w') := by
        intro w1 hb1
        obtain ⟨g, hg, hS⟩ := SM_new hr (OH.out.2.2.1.later hb1) p1
        have b2 : Below w1.heap.size w1 (w1.alloc (.cells #[.slice va xs.length vc] 33)) := (Below.refl _ _).alloc (Nat.le_refl _) _
        have hb2 := over hb1 b2
        have kk : Kp no w (w1.alloc (.cells #[.slice va xs.length vc] 33)) := Kp.of_below hb2
        have hcl := claimsM hr N 0 N rfl (by omega)
        rw [cnt_zero hr, cnt_all hr (fun j hj => (p3 j hj).2)] at hcl
        have z := lookC (ShM w1.heap.size g xs hr (fun j hj => by have := (p3 j hj).2; omega)) wd hwd N w.heap.size _ _ hs proof root n1 n2 _ hS (OH.out.1.keep kk (fun _ e => e.elim)) (OH.out.2.1.keep kk (fun _ e => e.elim)) zh zp (OH.out.2.2.2.down hb2) OH.out.2.2.2.big hb2.size (fun b e => by subst e; exact hb1.size) (by omega)
        rw [seen_is] at z
        exact z.mono fun e w' q => ⟨q.1, hb2.trans q.2⟩
      obtain ⟨r, HRR⟩ : ∃ r, Hid (seen wd (lkM (natL xs)) N ((WL (lkM (natL xs)) 0 N).length : Nat) hs proof root = r) := ⟨_, rfl⟩
      rw [HRR.out] at LC ⊢
      obtain ⟨cn, HCN⟩ : ∃ c, Hid ((WL (lkM (natL xs)) 0 N).length = c) := ⟨_, rfl⟩
      rw [HCN.out] at CC LC
      rw [h2] at LC ⊢
      obtain ⟨l, HL⟩ : ∃ l, Hid (xs.length = l) := ⟨_, rfl⟩
      obtain ⟨lp, HLP⟩ : ∃ l, Hid (proof.length = l) := ⟨_, rfl⟩
      rw [HL.out] at CC LC MC ⊢
      rw [HLP.out] at LC ⊢
      have q : ((l : Int) == l) = true := beq_self_eq_true _
      clear OH h n3 n4 hr p1 p2 p3 p4 h2 zx zh zp hT hwd n1 n2
      go_enter Tryz.func13, Tryz.ntmps13
      go_wp2_with fail
      refine CC.out.mono ?_
      rintro e w1 ⟨rfl, hb1⟩
      have B1 : Hid (Below w.heap.size w w1) := hb1
      clear hb1
      go_wp2_with fail
      refine (MC.out _).mono ?_
      rintro e w2 ⟨rfl, hw⟩
      have LC1 : Hid (Calls _ _ _ _ _) := LC.out w1 B1.out
      rw [← hw] at LC1
      clear hw
      go_wp2_with fail
      refine LC1.out.mono ?_
      rintro e w3 ⟨rfl, hb3⟩
      have B3 : Hid (Below w.heap.size w w3) := hb3
      clear hb3
      go_wp2
      go_ret
      exact ⟨rfl, B3.out⟩
    · rw [if_neg h2]
      have q : ((hs.length : Int) == xs.length) = false := by rw [beq_eq_false_iff_ne]; omega
      have q2 : (hs.length == xs.length) = false := by rw [beq_eq_false_iff_ne]; exact h2
      obtain ⟨l, HL⟩ : ∃ l, Hid (xs.length = l) := ⟨_, rfl⟩
      obtain ⟨lh, HLH⟩ : ∃ l, Hid (hs.length = l) := ⟨_, rfl⟩
      obtain ⟨lp, HLP⟩ : ∃ l, Hid (proof.length = l) := ⟨_, rfl⟩
      obtain ⟨cn, HCN⟩ : ∃ c, Hid ((WL (lkM (natL xs)) 0 N).length = c) := ⟨_, rfl⟩
      rw [HCN.out] at CC
      rw [HL.out] at CC h2 q q2 ⊢
      rw [HLH.out] at h2 q q2 ⊢
      rw [HLP.out]
      clear OH h n3 n4 hr p1 p2 p3 p4 zx zh zp hT hwd
      go_enter Tryz.func13, Tryz.ntmps13
      go_wp2_with fail
      refine CC.out.mono ?_
      rintro e w1 ⟨rfl, hb1⟩
      have B1 : Hid (Below w.heap.size w w1) := hb1
      clear hb1
      go_wp2
      go_ret
      exact ⟨rfl, B1.out⟩
  · rw [if_neg h]
    obtain ⟨c, HC⟩ : ∃ c, Hid (cnt9 4 0 0 n xs = c) := ⟨_, rfl⟩
    obtain ⟨c1, c2⟩ := c
    rw [HC.out] at CC h ⊢
    simp only at CC h ⊢
    have q : (c2 == 0) = false := by rw [beq_eq_false_iff_ne]; exact h
    obtain ⟨l, HL⟩ : ∃ l, Hid (xs.length = l) := ⟨_, rfl⟩
    obtain ⟨lh, HLH⟩ : ∃ l, Hid (hs.length = l) := ⟨_, rfl⟩
    obtain ⟨lp, HLP⟩ : ∃ l, Hid (proof.length = l) := ⟨_, rfl⟩
    rw [HL.out] at CC ⊢
    rw [HLH.out, HLP.out]
    clear OH h zx zh zp hT hwd
    go_enter Tryz.func13, Tryz.ntmps13
    go_wp2_with fail
    refine CC.out.mono ?_
    rintro e w1 ⟨rfl, hb1⟩
    have B1 : Hid (Below w.heap.size w w1) := hb1
    clear hb1
    go_wp2
    go_ret
    exact ⟨rfl, B1.out⟩
end Go.Proofs.YtfaalpdeabdhcaaGreatDoor.qm

namespace Go.Proofs.YtfaalpdeabdhcaaGreatDoor.qo
open Go.RowKit Go.PlainAid
open Go.Proofs.YtfaalpdeabdhcaaGreatDoor.pl Go.Proofs.YtfaalpdeabdhcaaGreatDoor.pi Go.Proofs.YtfaalpdeabdhcaaGreatDoor.pj Go.Proofs.YtfaalpdeabdhcaaGreatDoor.rf Go.Proofs.YtfaalpdeabdhcaaGreatDoor.ca Go.Proofs.YtfaalpdeabdhcaaGreatDoor.cb Go.Proofs.YtfaalpdeabdhcaaGreatDoor.cp Go.Proofs.YtfaalpdeabdhcaaGreatDoor.ga Go.Proofs.YtfaalpdeabdhcaaGreatDoor.aa Go.Proofs.YtfaalpdeabdhcaaGreatDoor.ab Go.Proofs.YtfaalpdeabdhcaaGreatDoor.ae Go.Proofs.YtfaalpdeabdhcaaGreatDoor.ba Go.Proofs.YtfaalpdeabdhcaaGreatDoor.bb Go.Proofs.YtfaalpdeabdhcaaGreatDoor.ka Go.Proofs.YtfaalpdeabdhcaaGreatDoor.kb Go.Proofs.YtfaalpdeabdhcaaGreatDoor.kp Go.Proofs.YtfaalpdeabdhcaaGreatDoor.lk Go.Proofs.YtfaalpdeabdhcaaGreatDoor.mi Go.Proofs.YtfaalpdeabdhcaaGreatDoor.lm Go.Proofs.YtfaalpdeabdhcaaGreatDoor.co Go.Proofs.YtfaalpdeabdhcaaGreatDoor.cn Go.Proofs.YtfaalpdeabdhcaaGreatDoor.qa Go.Proofs.YtfaalpdeabdhcaaGreatDoor.qb Go.Proofs.YtfaalpdeabdhcaaGreatDoor.qc Go.Proofs.YtfaalpdeabdhcaaGreatDoor.qg Go.Proofs.YtfaalpdeabdhcaaGreatDoor.qj Go.Proofs.YtfaalpdeabdhcaaGreatDoor.qk Go.Proofs.YtfaalpdeabdhcaaGreatDoor.qm
set_option linter.unusedVariables false

-- a shape that goes on down to the leaves
theorem singlyC (lg : Nat) (lv : Array Value) (w : World) : Calls Tryz.prog 30 #[.func (.func lg) #[] lv] w fun e w' => e = .returned (.func (.func 70) #[] #[.pointer (some ⟨w.heap.size, 0, none⟩)]) ∧ w' = w.alloc (.cells #[.func (.func lg) #[] lv] 54) := by
  go_enter Tryz.func30, Tryz.ntmps30
  go_wp2
  go_ret
  exact ⟨rfl, rfl⟩
theorem lkS_is (lo hi a b : Nat) (hab : a < b) : lkS lo hi a b = if lkR lo hi a b = 0 then (if b - a = 1 then 0 else 2) else lkR lo hi a b := by
  unfold lkS lkR
  by_cases h1 : b ≤ lo ∨ hi ≤ a
  · rw [if_pos h1, if_pos h1, if_neg (by omega)]
  · rw [if_neg h1, if_neg h1]
    by_cases h2 : lo ≤ a ∧ b ≤ hi
    · rw [if_pos h2, if_pos rfl]
    · rw [if_neg h2, if_neg (by omega), if_neg (by omega)]
set_option maxHeartbeats 1600000 in
theorem lookSg (sb lb' hb' lo hi a b : Nat) (w : World) (hab : a < b) (hb : b ≤ 4611686018427387904) (hP : w.cell? ⟨lb', 0, none⟩ = some (.int .i64 lo)) (hQ : w.cell? ⟨hb', 0, none⟩ = some (.int .i64 hi)) (hS : w.cell? ⟨sb, 0, none⟩ = some (.func (.func 72) #[] #[.pointer (some ⟨lb', 0, none⟩), .pointer (some ⟨hb', 0, none⟩)])) :
    Calls Tryz.prog 70 #[.agg #[.int .i64 a, .int .i64 b], .pointer (some ⟨sb, 0, none⟩)] w fun e w' => e = .returned (.int .i64 (lkS lo hi a b : Nat)) ∧ Below w.heap.size w w' := by
  have BA : Hid (Below w.heap.size w (w.alloc (.cells #[.int .i64 a, .int .i64 b] 95))) := (Below.refl _ _).alloc (Nat.le_refl _) _
  have HB : Hid (Bx (w.alloc (.cells #[.int .i64 a, .int .i64 b] 95)) w.heap.size a b) := part_box w a b
  have cs := (BA.out.cell (World.block_lt_of_cell? _ _ hS)).trans hS
  have RC : Hid (Calls _ _ _ _ _) := lookR lb' hb' lo hi a b (w.alloc (.cells #[.int .i64 a, .int .i64 b] 95)) hab hb ((BA.out.cell (World.block_lt_of_cell? _ _ hP)).trans hP) ((BA.out.cell (World.block_lt_of_cell? _ _ hQ)).trans hQ)
  have LC : Hid (∀ w, Calls _ _ _ _ _) := fun w => isLeaf a b (by omega) hb w
  rw [lkS_is lo hi a b hab]
  obtain ⟨r, HR⟩ : ∃ r, Hid (lkR lo hi a b = r) := ⟨_, rfl⟩
  rw [HR.out] at RC ⊢
  obtain ⟨c1, c2⟩ := HB.out
  clear hP hQ hS
  by_cases h : r = 0
  · subst h
    rw [if_pos rfl]
    by_cases h1 : b - a = 1
    · rw [decide_eq_true h1] at LC
      rw [if_pos h1]
      clear h1 HR
      go_enter Tryz.func70, Tryz.ntmps70
      go_wp2_with fail
      refine RC.out.mono ?_
      rintro e w1 ⟨rfl, hb1⟩
      have B1 : Hid (Below w.heap.size w w1) := over BA.out hb1
      obtain ⟨d1, d2⟩ := HB.out.later hb1
      clear hb1 c1 c2 cs
      go_wp2_with fail
      refine (LC.out _).mono ?_
      rintro e w2 ⟨rfl, hb2⟩
      have B2 : Hid (Below w.heap.size w w2) := over B1.out hb2
      clear hb2 d1 d2
      go_wp2
      go_ret
      exact ⟨rfl, B2.out⟩
    · rw [decide_eq_false h1] at LC
      rw [if_neg h1]
      clear h1 HR
      go_enter Tryz.func70, Tryz.ntmps70
      go_wp2_with fail
      refine RC.out.mono ?_
      rintro e w1 ⟨rfl, hb1⟩
      have B1 : Hid (Below w.heap.size w w1) := over BA.out hb1
      obtain ⟨d1, d2⟩ := HB.out.later hb1
      clear hb1 c1 c2 cs
      go_wp2_with fail
      refine (LC.out _).mono ?_
      rintro e w2 ⟨rfl, hb2⟩
      have B2 : Hid (Below w.heap.size w w2) := over B1.out hb2
      clear hb2 d1 d2
      go_wp2
      go_ret
      exact ⟨rfl, B2.out⟩
  · rw [if_neg h]
    have q : ((r : Int) == 0) = false := by rw [beq_eq_false_iff_ne]; omega
    clear HR LC
    go_enter Tryz.func70, Tryz.ntmps70
    go_wp2_with fail
    refine RC.out.mono ?_
    rintro e w1 ⟨rfl, hb1⟩
    have B1 : Hid (Below w.heap.size w w1) := over BA.out hb1
    clear hb1 c1 c2 cs
    go_wp2
    go_ret
    exact ⟨rfl, B1.out⟩
theorem ShS (sb lb' hb' lo hi : Nat) : Shp (fun b => b = sb ∨ b = lb' ∨ b = hb') no (fun _ w => w.cell? ⟨lb', 0, none⟩ = some (.int .i64 lo) ∧ w.cell? ⟨hb', 0, none⟩ = some (.int .i64 hi) ∧ w.cell? ⟨sb, 0, none⟩ = some (.func (.func 72) #[] #[.pointer (some ⟨lb', 0, none⟩), .pointer (some ⟨hb', 0, none⟩)])) (lkS lo hi) (fun _ => 0) 70 #[.pointer (some ⟨sb, 0, none⟩)] where
  enter := fun args w => by simp [go_sem]
  keep := fun h k hg => ⟨k.cell h.1 (fun g => hg _ g (.inr (.inl rfl))), k.cell h.2.1 (fun g => hg _ g (.inr (.inr rfl))), k.cell h.2.2 (fun g => hg _ g (.inl rfl))⟩
  fd := fun b h => h.elim
  fl := fun h b hb => by
    rcases hb with rfl | rfl | rfl
    · exact World.block_lt_of_cell? _ _ h.2.2
    · exact World.block_lt_of_cell? _ _ h.1
    · exact World.block_lt_of_cell? _ _ h.2.1
  call := fun a b w hab hb hP => (lookSg sb lb' hb' lo hi a b w hab hb hP.1 hP.2.1 hP.2.2).mono fun e w' h => ⟨h.1, ⟨(h.2.cell (World.block_lt_of_cell? _ _ hP.1)).trans hP.1, (h.2.cell (World.block_lt_of_cell? _ _ hP.2.1)).trans hP.2.1, (h.2.cell (World.block_lt_of_cell? _ _ hP.2.2)).trans hP.2.2⟩, Kp.of_below h.2⟩
  wide := wideS
  four := fourS lo hi
  turn := fun _ _ => rfl
-- a range is its places
def rg (lo hi : Nat) : List Int := (List.range' lo (hi - lo)).map Int.ofNat
theorem rg_len (lo hi : Nat) : (rg lo hi).length = hi - lo := by unfold rg; simp
theorem rg_get (lo hi j : Nat) (h : j < hi - lo) : (rg lo hi).getD j 0 = ((lo + j : Nat) : Int) := by
  unfold rg
  rw [List.getD_eq_getElem?_getD, List.getElem?_map, List.getElem?_range' (by omega)]
  simp
theorem rg_ris (lo hi : Nat) : Ris (rg lo hi) := ⟨fun j hj => by rw [rg_len] at hj; rw [rg_get lo hi j hj]; omega, fun i j hij hj => by rw [rg_len] at hj; rw [rg_get lo hi i (by omega), rg_get lo hi j hj]; omega⟩
theorem rg_mem (lo hi p : Nat) : p ∈ natL (rg lo hi) ↔ lo ≤ p ∧ p < hi := by
  unfold natL rg
  rw [List.map_map, List.mem_map]
  constructor
  · rintro ⟨q, hq, rfl⟩
    rw [List.mem_range'_1] at hq
    simp only [Function.comp]
    show lo ≤ (Int.ofNat q).toNat ∧ _
    have : (Int.ofNat q).toNat = q := rfl
    rw [this]
    omega
  · rintro ⟨h1, h2⟩
    exact ⟨p, by rw [List.mem_range'_1]; omega, rfl⟩
theorem lkS_M (lo hi a b : Nat) (hlh : lo < hi) (hab : a < b) : lkS lo hi a b = lkM (natL (rg lo hi)) a b := by
  unfold lkS lkM
  by_cases h : b ≤ lo ∨ hi ≤ a
  · rw [if_pos h, if_neg]
    rintro ⟨p, hp, h1, h2⟩
    rw [rg_mem] at hp
    omega
  · rw [if_neg h, if_pos (show ∃ p ∈ natL (rg lo hi), a ≤ p ∧ p < b from ⟨max a lo, (rg_mem lo hi _).2 (by omega), by omega, by omega⟩)]
theorem counts (lo hi n : Nat) (hlh : lo < hi) (hn : hi ≤ n) : (WL (lkS lo hi) 0 n).length = (WL (lkR lo hi) 0 n).length ∧ (WL (fl (lkS lo hi)) 0 n).length = hi - lo := by
  have e1 := WL_congr (lk := lkS lo hi) (lk' := lkM (natL (rg lo hi))) n 0 n rfl (fun c d _ q _ => lkS_M lo hi c d hlh q) (by omega)
  have e2 := WL_congr (lk := fl (lkS lo hi)) (lk' := fl (lkM (natL (rg lo hi)))) n 0 n rfl (fun c d _ q _ => fl_congr (lkS_M lo hi c d hlh q)) (by omega)
  have e3 := range_multi (natL (rg lo hi)) lo hi hlh (rg_mem lo hi) n 0 n rfl (by omega)
  have e4 := claimsM (rg_ris lo hi) n 0 n rfl (by omega)
  rw [cnt_zero (rg_ris lo hi), cnt_all (rg_ris lo hi) (fun j hj => by rw [rg_len] at hj; rw [rg_get lo hi j hj]; omega), rg_len] at e4
  exact ⟨by rw [e1, e3], by rw [e2]; omega⟩
end Go.Proofs.YtfaalpdeabdhcaaGreatDoor.qo

namespace Go.Proofs.YtfaalpdeabdhcaaGreatDoor.qp
open Go.RowKit Go.PlainAid
open Go.Proofs.YtfaalpdeabdhcaaGreatDoor.pl Go.Proofs.YtfaalpdeabdhcaaGreatDoor.pi Go.Proofs.YtfaalpdeabdhcaaGreatDoor.pj Go.Proofs.YtfaalpdeabdhcaaGreatDoor.rf Go.Proofs.YtfaalpdeabdhcaaGreatDoor.ca Go.Proofs.YtfaalpdeabdhcaaGreatDoor.cb Go.Proofs.YtfaalpdeabdhcaaGreatDoor.cp Go.Proofs.YtfaalpdeabdhcaaGreatDoor.ga Go.Proofs.YtfaalpdeabdhcaaGreatDoor.aa Go.Proofs.YtfaalpdeabdhcaaGreatDoor.ka Go.Proofs.YtfaalpdeabdhcaaGreatDoor.kb Go.Proofs.YtfaalpdeabdhcaaGreatDoor.kp Go.Proofs.YtfaalpdeabdhcaaGreatDoor.lk Go.Proofs.YtfaalpdeabdhcaaGreatDoor.mi Go.Proofs.YtfaalpdeabdhcaaGreatDoor.lm Go.Proofs.YtfaalpdeabdhcaaGreatDoor.co Go.Proofs.YtfaalpdeabdhcaaGreatDoor.cn Go.Proofs.YtfaalpdeabdhcaaGreatDoor.dc Go.Proofs.YtfaalpdeabdhcaaGreatDoor.qa Go.Proofs.YtfaalpdeabdhcaaGreatDoor.qb Go.Proofs.YtfaalpdeabdhcaaGreatDoor.qc Go.Proofs.YtfaalpdeabdhcaaGreatDoor.qg Go.Proofs.YtfaalpdeabdhcaaGreatDoor.qj Go.Proofs.YtfaalpdeabdhcaaGreatDoor.qk Go.Proofs.YtfaalpdeabdhcaaGreatDoor.qm Go.Proofs.YtfaalpdeabdhcaaGreatDoor.qo
set_option linter.unusedVariables false

def rngA (wd lo n : Int) (hs proof : List ByteArray) (root : ByteArray) : Int :=
  if (cnt9 3 lo (lo + hs.length) n []).2 = 0 then qm.seen wd (lkS lo.toNat (lo + hs.length).toNat) n.toNat (cnt9 3 lo (lo + hs.length) n []).1 hs proof root else (cnt9 3 lo (lo + hs.length) n []).2
theorem cnt_hi {lo n : Int} {L : Nat} (h : lo < 0 ∨ 4611686018427387904 < lo + L) : cnt9 3 lo lo n [] = cnt9 3 lo (lo + L) n [] := by
  have r : ∀ b : Int, (b ≤ lo ∨ lo < 0 ∨ 4611686018427387904 < b) → ref9 3 lo b n [] = if n < 0 ∨ 4611686018427387904 < n then 80 else 81 := fun b hb => by
    unfold ref9
    rw [if_neg (by omega)]
    by_cases k : n < 0 ∨ 4611686018427387904 < n
    · rw [if_pos k, if_pos k]
    · rw [if_neg k, if_neg k, if_neg (by omega), if_neg (by omega), if_pos rfl, if_pos (by omega)]
  have e1 := r lo (.inl (by omega))
  have e2 := r (lo + L) (by omega)
  have e3 : (if n < 0 ∨ 4611686018427387904 < n then (80 : Int) else 81) ≠ 0 := by split <;> omega
  unfold cnt9
  rw [e1, e2, if_neg e3, if_neg e3]
theorem rng_ok {lo n : Int} {L : Nat} (h : (cnt9 3 lo (lo + L) n []).2 = 0) : ∃ A N : Nat, lo = A ∧ n = N ∧ 1 ≤ L ∧ A + L ≤ N ∧ N ≤ 4611686018427387904 ∧ cnt9 3 lo (lo + L) n [] = ((((WL (lkR A (A + L)) 0 N).length : Nat) : Int), 0) := by
  by_cases h0 : ref9 3 lo (lo + L) n [] = 0
  · have hc : cnt9 3 lo (lo + L) n [] = (((num9 3 lo (lo + L) n [] : Nat) : Int), 0) := by unfold cnt9; rw [if_pos h0]
    unfold ref9 at h0
    rw [if_neg (by omega)] at h0
    by_cases k2 : n < 0 ∨ 4611686018427387904 < n
    · rw [if_pos k2] at h0; omega
    rw [if_neg k2, if_neg (by omega), if_neg (by omega), if_pos rfl] at h0
    by_cases g : lo < 0 ∨ lo + L ≤ lo ∨ n < lo + L
    · rw [if_pos g] at h0; omega
    obtain ⟨N, rfl⟩ : ∃ A : Nat, n = A := ⟨n.toNat, by omega⟩
    obtain ⟨A, rfl⟩ : ∃ B : Nat, lo = B := ⟨lo.toNat, by omega⟩
    refine ⟨A, N, rfl, rfl, by omega, by omega, by omega, ?_⟩
    rw [hc]
    unfold num9
    rw [if_neg (by omega), if_neg (by omega), if_pos rfl, Int.toNat_natCast, Int.toNat_natCast, show ((A : Int) + L).toNat = A + L by omega]
  · have hc : cnt9 3 lo (lo + L) n [] = (0, ref9 3 lo (lo + L) n []) := by unfold cnt9; rw [if_neg h0]
    rw [hc] at h
    exact absurd h h0
-- the sum
theorem sumC (a b : Int) (ha : 0 ≤ a ∧ a ≤ 9223372036854775807) (hb : 0 ≤ b ∧ b ≤ 9223372036854775807) (w : World) : Calls Tryz.prog 61 #[.int .i64 a, .int .i64 b, .int .i64 9223372036854775807] w fun e w' => e = .returned (.tuple (if 9223372036854775807 - a < b then #[.int .i64 0, .int .i64 11] else #[.int .i64 (a + b), .int .i64 0])) ∧ w' = w := by
  have d1 : decide (9223372036854775807 < a) = false := decide_eq_false (by omega)
  have hw : IntKind.i64.wrap (9223372036854775807 - a) = 9223372036854775807 - a := by rw [IntKind.wrap_i64]; omega
  by_cases h : 9223372036854775807 - a < b
  · rw [if_pos h]
    have d2 : decide (9223372036854775807 - a < b) = true := decide_eq_true h
    clear h
    go_enter Tryz.func61, Tryz.ntmps61
    go_wp2
    go_ret2
    exact ⟨rfl, rfl⟩
  · rw [if_neg h]
    have d2 : decide (9223372036854775807 - a < b) = false := decide_eq_false h
    have hw2 : IntKind.i64.wrap (a + b) = a + b := by rw [IntKind.wrap_i64]; omega
    clear h
    go_enter Tryz.func61, Tryz.ntmps61
    go_wp2
    go_ret2
    exact ⟨rfl, rfl⟩
def addE (lo : Int) (L : Nat) : Value := if lo < 0 then .tuple #[.int .i64 0, .int .i64 10] else .tuple (if 9223372036854775807 - lo < L then #[.int .i64 0, .int .i64 11] else #[.int .i64 (lo + L), .int .i64 0])
theorem addC (lo : Int) (hlo : i64 lo) (L : Nat) (hL : (L : Int) ≤ 9223372036854775807) (w : World) : Calls Tryz.prog 27 #[.int .i64 lo, .int .i64 L] w fun e w' => e = .returned (addE lo L) ∧ w' = w := by
  obtain ⟨l1, l2⟩ := hlo
  unfold addE
  by_cases h : lo < 0
  · rw [if_pos h]
    have d1 : decide (lo < 0) = true := decide_eq_true h
    clear h
    go_enter Tryz.func27, Tryz.ntmps27
    go_wp2
    go_ret2
    exact ⟨rfl, rfl⟩
  · rw [if_neg h]
    have d1 : decide (lo < 0) = false := decide_eq_false h
    have d2 : decide ((L : Int) < 0) = false := decide_eq_false (by omega)
    have SC : Hid (∀ w, Calls _ _ _ _ _) := fun w => sumC lo L ⟨by omega, by omega⟩ ⟨by omega, by omega⟩ w
    by_cases g : 9223372036854775807 - lo < L
    · rw [if_pos g] at SC ⊢
      clear h g
      go_enter Tryz.func27, Tryz.ntmps27
      go_wp2_with fail
      refine (SC.out _).mono ?_
      rintro e w1 ⟨rfl, hw⟩
      subst hw
      go_wp2
      go_ret2
      exact ⟨rfl, rfl⟩
    · rw [if_neg g] at SC ⊢
      clear h g
      go_enter Tryz.func27, Tryz.ntmps27
      go_wp2_with fail
      refine (SC.out _).mono ?_
      rintro e w1 ⟨rfl, hw⟩
      subst hw
      go_wp2
      go_ret2
      exact ⟨rfl, rfl⟩
theorem reads_nilI (w : World) : ReadsI w (.slice none 0 0) [] := ⟨none, 0, rfl, Nat.le_refl _, .inl rfl⟩
set_option maxHeartbeats 3200000 in
theorem RangeC (wd lo n : Int) (hwd : i64 wd) (hlo : i64 lo) (vh vp : Value) (hs proof : List ByteArray) (root : ByteArray) (w : World) (hh : ReadsT w vh hs) (hp : ReadsT w vp proof) (zh : hs.length ≤ 140737488355328) (zp : proof.length ≤ 140737488355328) (hT : Tab w) :
    Calls Tryz.prog 9 #[.int .i64 wd, .int .i64 lo, .int .i64 n, vh, vp, .string root] w fun e w' => e = .returned (.int .i64 (rngA wd lo n hs proof root)) ∧ Below w.heap.size w w' := by
  have AC : Hid (∀ w, Calls _ _ _ _ _) := fun w => addC lo hlo hs.length (by omega) w
  have OH : Hid (Old w.heap.size w vh hs ∧ Old w.heap.size w vp proof ∧ Tab w) := ⟨Old.of hh, Old.of hp, hT⟩
  obtain ⟨ha, hc, rfl, _⟩ := hh
  obtain ⟨pa, pc, rfl, _⟩ := hp
  obtain ⟨l1, l2⟩ := hlo
  -- the sum is the end, or a number that is refused alike
  obtain ⟨hi, s1, s2, ADD, hhi⟩ : ∃ (hi s1 s2 : Int), Hid (addE lo hs.length = .tuple #[.int .i64 s1, .int .i64 s2]) ∧ ((s2 = 0 ∧ s1 = hi ∧ hi = lo + hs.length) ∨ (s2 ≠ 0 ∧ hi = lo ∧ (lo < 0 ∨ 4611686018427387904 < lo + hs.length))) := by
    unfold addE
    by_cases h : lo < 0
    · rw [if_pos h]; exact ⟨lo, 0, 10, rfl, .inr ⟨by omega, rfl, .inl h⟩⟩
    · rw [if_neg h]
      by_cases g : 9223372036854775807 - lo < hs.length
      · rw [if_pos g]; exact ⟨lo, 0, 11, rfl, .inr ⟨by omega, rfl, .inr (by omega)⟩⟩
      · rw [if_neg g]; exact ⟨lo + hs.length, lo + hs.length, 0, rfl, .inl ⟨rfl, rfl, rfl⟩⟩
  rw [ADD.out] at AC
  have hcnt : cnt9 3 lo hi n [] = cnt9 3 lo (lo + hs.length) n [] := by
    rcases hhi with ⟨_, _, rfl⟩ | ⟨_, rfl, q⟩
    · rfl
    · exact cnt_hi q
  have CC : Hid (∀ w, Calls _ _ _ _ _) := fun w => countC 3 lo hi n (.slice none 0 0) [] w (reads_nilI w) (by simp)
  rw [hcnt] at CC
  unfold rngA
  by_cases h : (cnt9 3 lo (lo + hs.length) n []).2 = 0
  · obtain ⟨A, N, rfl, rfl, n0, n1, n2, n4⟩ := rng_ok h
    rw [if_pos h, Int.toNat_natCast, Int.toNat_natCast, show ((A : Int) + hs.length).toNat = A + hs.length by omega, n4]
    rw [n4] at CC
    simp only at CC ⊢
    obtain ⟨hs2, hs1, hhi2⟩ : s2 = 0 ∧ s1 = hi ∧ hi = ((A + hs.length : Nat) : Int) := by
      rcases hhi with ⟨q1, q2, q3⟩ | ⟨_, _, q⟩
      · exact ⟨q1, q2, by omega⟩
      · omega
    subst hs2 hs1 hhi2
    have RC : Hid (∀ w, Calls _ _ _ _ _) := fun w => rangedC A ((A + hs.length : Nat) : Int) w
    have SC : Hid (∀ w lv, Calls _ _ _ _ _) := fun w lv => singlyC 72 lv w
    have CNT := counts A (A + hs.length) N (by omega) n1
    have LC : Hid (∀ w1, Below w.heap.size w w1 → Calls Tryz.prog 29 #[.int .i64 wd, .int .i64 N, .int .i64 ((WL (lkR A (A + hs.length)) 0 N).length : Nat), .func (.func 70) #[] #[.pointer (some ⟨w1.heap.size + 1 + 1, 0, none⟩)], .slice ha hs.length hc, .slice pa proof.length pc, .string root] (((w1.alloc (.cells #[.int .i64 A] 3)).alloc (.cells #[.int .i64 ((A + hs.length : Nat) : Int)] 3)).alloc (.cells #[.func (.func 72) #[] #[.pointer (some ⟨w1.heap.size, 0, none⟩), .pointer (some ⟨w1.heap.size + 1, 0, none⟩)]] 54)) fun e w' => e = .returned (.int .i64 (qm.seen wd (lkS A (A + hs.length)) N ((WL (lkR A (A + hs.length)) 0 N).length : Nat) hs proof root)) ∧ Below w.heap.size w w') := by
      intro w1 hb1
      obtain ⟨x1, x2, x3⟩ := three_one w1 (.int .i64 A) (.int .i64 ((A + hs.length : Nat) : Int)) (.func (.func 72) #[] #[.pointer (some ⟨w1.heap.size, 0, none⟩), .pointer (some ⟨w1.heap.size + 1, 0, none⟩)]) 3 3 54
      have b2 : Below w1.heap.size w1 (((w1.alloc (.cells #[.int .i64 A] 3)).alloc (.cells #[.int .i64 ((A + hs.length : Nat) : Int)] 3)).alloc (.cells #[.func (.func 72) #[] #[.pointer (some ⟨w1.heap.size, 0, none⟩), .pointer (some ⟨w1.heap.size + 1, 0, none⟩)]] 54)) := (((Below.refl _ _).alloc (Nat.le_refl _) _).alloc (by simp) _).alloc (by simp; omega) _
      have hb2 := over hb1 b2
      have kk : Kp no w _ := Kp.of_below hb2
      have z := lookC (ShS (w1.heap.size + 1 + 1) w1.heap.size (w1.heap.size + 1) A (A + hs.length)) wd hwd N w.heap.size _ _ hs proof root (by omega) n2 _ ⟨x1, x2, x3⟩ (OH.out.1.keep kk (fun _ e => e.elim)) (OH.out.2.1.keep kk (fun _ e => e.elim)) zh zp (OH.out.2.2.down hb2) OH.out.2.2.big hb2.size (fun b e => e.elim) (by rw [CNT.2]; omega)
      rw [seen_is, CNT.1] at z
      exact z.mono fun e w' q => ⟨q.1, hb2.trans q.2⟩
    obtain ⟨r, HRR⟩ : ∃ r, Hid (qm.seen wd (lkS A (A + hs.length)) N ((WL (lkR A (A + hs.length)) 0 N).length : Nat) hs proof root = r) := ⟨_, rfl⟩
    rw [HRR.out] at LC ⊢
    obtain ⟨cn, HCN⟩ : ∃ c, Hid ((WL (lkR A (A + hs.length)) 0 N).length = c) := ⟨_, rfl⟩
    rw [HCN.out] at CC LC
    obtain ⟨lh, HL⟩ : ∃ l, Hid (hs.length = l) := ⟨_, rfl⟩
    obtain ⟨lp, HLP⟩ : ∃ l, Hid (proof.length = l) := ⟨_, rfl⟩
    rw [HL.out] at AC CC LC RC ⊢
    rw [HLP.out] at LC ⊢
    clear OH h n4 n0 n1 n2 zh zp hT hwd hhi hcnt CNT ADD l1 l2
    obtain ⟨E, HEE⟩ : ∃ E : Int, Hid (((A + lh : Nat) : Int) = E) := ⟨_, rfl⟩
    rw [HEE.out] at AC CC LC RC
    go_enter Tryz.func9, Tryz.ntmps9
    go_wp2_with fail
    refine (AC.out _).mono ?_
    rintro e w0 ⟨rfl, hw⟩
    subst hw
    go_wp2_with fail
    refine (CC.out _).mono ?_
    rintro e w1 ⟨rfl, hb1⟩
    have B1 : Hid (Below w0.heap.size w0 w1) := hb1
    clear hb1
    go_wp2_with fail
    refine (RC.out _).mono ?_
    rintro e w2 ⟨rfl, hw2⟩
    have s2 : w2.heap.size = w1.heap.size + 1 + 1 := by rw [hw2]; simp
    have SC1 : Hid (Calls _ _ _ _ _) := SC.out w2 #[.pointer (some ⟨w1.heap.size, 0, none⟩), .pointer (some ⟨w1.heap.size + 1, 0, none⟩)]
    rw [s2] at SC1
    have HW2 : Hid (w2 = _) := hw2
    clear hw2 s2
    go_wp2_with fail
    refine SC1.out.mono ?_
    rintro e w3 ⟨rfl, hw3⟩
    have LC1 : Hid (Calls _ _ _ _ _) := LC.out w1 B1.out
    rw [← HW2.out, ← hw3] at LC1
    clear hw3 HW2
    go_wp2_with fail
    refine LC1.out.mono ?_
    rintro e w4 ⟨rfl, hb4⟩
    have B4 : Hid (Below w0.heap.size w0 w4) := hb4
    clear hb4
    go_wp2
    go_ret
    exact ⟨rfl, B4.out⟩
  · rw [if_neg h]
    obtain ⟨c, HC⟩ : ∃ c, Hid (cnt9 3 lo (lo + hs.length) n [] = c) := ⟨_, rfl⟩
    obtain ⟨c1, c2⟩ := c
    rw [HC.out] at CC h ⊢
    simp only at CC h ⊢
    have q : (c2 == 0) = false := by rw [beq_eq_false_iff_ne]; exact h
    obtain ⟨lh, HLH⟩ : ∃ l, Hid (hs.length = l) := ⟨_, rfl⟩
    obtain ⟨lp, HLP⟩ : ∃ l, Hid (proof.length = l) := ⟨_, rfl⟩
    rw [HLH.out] at AC ⊢
    rw [HLP.out]
    have hs12 : (s2 = 0 ∧ s1 = hi) ∨ (s2 ≠ 0 ∧ hi = lo) := by
      rcases hhi with ⟨q1, q2, _⟩ | ⟨q1, q2, _⟩
      · exact .inl ⟨q1, q2⟩
      · exact .inr ⟨q1, q2⟩
    clear OH h zh zp hT hwd hhi hcnt ADD l1 l2
    rcases hs12 with ⟨rfl, rfl⟩ | ⟨g, rfl⟩
    · go_enter Tryz.func9, Tryz.ntmps9
      go_wp2_with fail
      refine (AC.out _).mono ?_
      rintro e w0 ⟨rfl, hw⟩
      subst hw
      go_wp2_with fail
      refine (CC.out _).mono ?_
      rintro e w1 ⟨rfl, hb1⟩
      have B1 : Hid (Below w0.heap.size w0 w1) := hb1
      clear hb1
      go_wp2
      go_ret
      exact ⟨rfl, B1.out⟩
    · have q2 : (s2 == 0) = false := by rw [beq_eq_false_iff_ne]; exact g
      clear g
      go_enter Tryz.func9, Tryz.ntmps9
      go_wp2_with fail
      refine (AC.out _).mono ?_
      rintro e w0 ⟨rfl, hw⟩
      subst hw
      go_wp2_with fail
      refine (CC.out _).mono ?_
      rintro e w1 ⟨rfl, hb1⟩
      have B1 : Hid (Below w0.heap.size w0 w1) := hb1
      clear hb1
      go_wp2
      go_ret
      exact ⟨rfl, B1.out⟩
end Go.Proofs.YtfaalpdeabdhcaaGreatDoor.qp
