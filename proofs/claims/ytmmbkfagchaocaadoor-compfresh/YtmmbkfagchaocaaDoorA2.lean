import Derived.Test.YtmmbkfagchaocaaDoorB1
import Derived.Deep.MidRow
import Derived.Test.YtmmbkfagchaocaaDoorA1
import Derived.Shelf.Strings.OnBuilder
import Derived.Test.YtmmbkfagchaocaaDoorProg
import Derived.Room.Shelf.Join48
import Derived.Deep.DeepCutAuto
import Derived.Deep.RegionHeld3
import Derived.Laws.AppendOwnNone
import Derived.BigQuiet
import Derived.Handy
namespace Go.Proofs.YtmmbkfagchaocaaDoor.ka
open Go.RowKit Go.PlainAid
open Go.Proofs.YtmmbkfagchaocaaDoor.ca Go.Proofs.YtmmbkfagchaocaaDoor.cp
set_option linter.unusedVariables false

-- a list of texts, wherever it lies
def ReadsT (w : World) (v : Value) (xs : List ByteArray) : Prop :=
  ∃ a cap, v = .slice a xs.length cap ∧ xs.length ≤ cap ∧ (xs.length = 0 ∨ ∃ b off, a = some ⟨b, off, none⟩ ∧ ∀ i, i < xs.length → w.cell? ⟨b, off + i, none⟩ = some (.string (xs.getD i ByteArray.empty)))
theorem ReadsT.later {w w' : World} {v : Value} {xs : List ByteArray} (h : ReadsT w v xs) (hb : Below w.heap.size w w') : ReadsT w' v xs := by
  obtain ⟨a, cap, rfl, hc, h0 | ⟨b, off, rfl, hh⟩⟩ := h
  · exact ⟨a, cap, rfl, hc, .inl h0⟩
  · refine ⟨_, cap, rfl, hc, .inr ⟨b, off, rfl, fun i hi => ?_⟩⟩
    have := hh i hi
    exact (hb.cell (p := ⟨b, off + i, none⟩) (World.block_lt_of_cell? _ _ this)).trans this
theorem ReadsT.front {w : World} {b off n cap k : Nat} {xs : List ByteArray} (h : ReadsT w (.slice (some ⟨b, off, none⟩) n cap) xs) (hk : k ≤ xs.length) : ReadsT w (.slice (some ⟨b, off, none⟩) k cap) (xs.take k) := by
  obtain ⟨a, cap', e, hc, hh⟩ := h
  injection e with e1 e2 e3
  subst e1 e3
  have hl : (xs.take k).length = k := by rw [List.length_take]; omega
  refine ⟨_, cap, by rw [hl], by omega, ?_⟩
  rcases hh with h0 | ⟨b', off', e4, hh⟩
  · left; omega
  · injection e4 with e4
    injection e4 with e5 e6
    subst e5 e6
    refine .inr ⟨b, off, rfl, fun i hi => ?_⟩
    rw [hl] at hi
    rw [hh i (by omega), List.getD_eq_getElem?_getD, List.getD_eq_getElem?_getD, List.getElem?_take, if_pos hi]
theorem ReadsT.back {w : World} {b off n cap k : Nat} {xs : List ByteArray} (h : ReadsT w (.slice (some ⟨b, off, none⟩) n cap) xs) (hk : k ≤ xs.length) : ReadsT w (.slice (some ⟨b, off + k, none⟩) (n - k) (cap - k)) (xs.drop k) := by
  obtain ⟨a, cap', e, hc, hh⟩ := h
  injection e with e1 e2 e3
  subst e1 e2 e3
  have hl : (xs.drop k).length = xs.length - k := List.length_drop
  refine ⟨_, cap - k, by rw [hl], by omega, ?_⟩
  rcases hh with h0 | ⟨b', off', e4, hh⟩
  · left; omega
  · injection e4 with e4
    injection e4 with e5 e6
    subst e5 e6
    refine .inr ⟨b, off + k, rfl, fun i hi => ?_⟩
    rw [hl] at hi
    rw [Nat.add_assoc, hh (k + i) (by omega), List.getD_eq_getElem?_getD, List.getD_eq_getElem?_getD, List.getElem?_drop]
theorem ReadsT.mid {w : World} {b off n cap f k : Nat} {xs : List ByteArray} (h : ReadsT w (.slice (some ⟨b, off, none⟩) n cap) xs) (hk : f + k ≤ xs.length) : ReadsT w (.slice (some ⟨b, off + f, none⟩) k (cap - f)) ((xs.drop f).take k) := by
  have h1 := h.back (k := f) (by omega)
  exact ReadsT.front (n := n - f) h1 (by rw [List.length_drop]; omega)
theorem own_readsT {w : World} {B n : Nat} {v : Value} {xs : List ByteArray} (h : w.ownsRow B 9 1 v n (xs.map Value.string)) : ReadsT w v xs := by
  have hn : xs.length = n := by have := h.1; simpa using this
  subst hn
  rcases h.2 with ⟨rfl, h0⟩ | ⟨g, cap, cur, rfl, _, hg, hc, _⟩
  · exact ⟨none, 0, by rw [h0], by omega, .inl h0⟩
  · refine ⟨_, cap, rfl, hc, .inr ⟨g, 0, rfl, fun i hi => ?_⟩⟩
    rw [Nat.zero_add, h.cellAt i (by omega), List.getElem?_map, List.getElem?_eq_getElem hi, List.getD_eq_getElem?_getD, List.getElem?_eq_getElem hi]
    rfl
theorem hi9 : (Tryd.prog.info? 9).map (fun i => (i.zero, i.size, i.bytes)) = some (some (.string ByteArray.empty), 1, 16) := by kernel_rfl
theorem info_parts {t : TypeId} {z : Value} {n b : Nat} (h : (Tryd.prog.info? t).map (fun i => (i.zero, i.size, i.bytes)) = some (some z, n, b)) : ∃ i, Tryd.prog.info? t = some i ∧ i.zero = some z ∧ i.size = n ∧ i.bytes = b := by
  obtain ⟨i, hi, he⟩ := Option.map_eq_some_iff.1 h
  injection he with e1 e2
  injection e2 with e2 e3
  exact ⟨i, hi, e1, e2, e3⟩
theorem own_formS {w : World} {B e size n : Nat} {v : Value} {xs : List Value} (h : w.ownsRow B e size v n xs) : ∃ a c, v = .slice a n c := by
  rcases h.2 with ⟨rfl, rfl⟩ | ⟨g, cap, cur, rfl, _⟩
  · exact ⟨_, _, rfl⟩
  · exact ⟨_, _, rfl⟩
theorem new_text (W : World) (u : Value) (t : TypeId) : ∀ (j : Nat) (x : Value), [u][j]? = some x → (W.alloc (.cells #[u] t)).cell? (Addr.add ⟨W.heap.size, 0, none⟩ j) = some x := by
  intro j x hx
  rw [show (Addr.add ⟨W.heap.size, 0, none⟩ j) = ⟨W.heap.size, j, none⟩ by cases j <;> simp [Addr.add], World.cell?_alloc_at _ _ _ _ rfl]
  simpa using hx
theorem one_text (x : ByteArray) : ∀ u ∈ [Value.string x], u.oneCell' = true := by
  intro u hu
  simp only [List.mem_cons, List.not_mem_nil, or_false] at hu
  subst hu
  rfl
theorem own_first {w : World} {B g n cap : Nat} {ys : List ByteArray} {z : Value} (h : w.ownsRow B 9 1 (.slice (some ⟨g, 0, none⟩) (n + 1) cap) (n + 1) (ys.map Value.string ++ [z])) (hn : ys.length = n) : ReadsT w (.slice (some ⟨g, 0, none⟩) n cap) ys := by
  have hc : n + 1 ≤ cap := by
    rcases h.2 with ⟨e, _⟩ | ⟨g', cap', cur, e, _, _, hc, _⟩
    · cases e
    · injection e with _ _ e3; omega
  refine ⟨_, cap, by rw [hn], by omega, .inr ⟨g, 0, rfl, fun i hi => ?_⟩⟩
  rw [Nat.zero_add, h.cellAt i (by omega), List.getElem?_append_left (by rw [List.length_map]; exact hi), List.getElem?_map, List.getElem?_eq_getElem hi, List.getD_eq_getElem?_getD, List.getElem?_eq_getElem hi]
  rfl
theorem own_behind {w : World} {B g n cap : Nat} {ys : List ByteArray} {z : Value} (h : w.ownsRow B 9 1 (.slice (some ⟨g, 0, none⟩) (n + 1) cap) (n + 1) (ys.map Value.string ++ [z])) (hn : ys.length = n) : w.cell? ⟨g, n, none⟩ = some z := by
  rw [h.cellAt n (by omega), List.getElem?_append_right (by rw [List.length_map]; omega), List.length_map, hn, Nat.sub_self]
  rfl
theorem reads_news {w : World} {ad : Addr} {n cap : Nat} {xs : List ByteArray} (h : ReadsT w (.slice (some ad) n cap) xs) : ∀ (j : Nat) (u : Value), (xs.map Value.string)[j]? = some u → w.cell? (ad.add j) = some u := by
  intro j u hu
  have hj : j < xs.length := by have := (List.getElem?_eq_some_iff.1 hu).1; simpa using this
  obtain ⟨a', cap', e, _, h0 | ⟨b, off, e4, hc⟩⟩ := h
  · omega
  · injection e with e1 e2 e3
    rw [← e1] at e4
    obtain rfl := Option.some.inj e4
    rw [Addr.add_mid, hc j hj, ← hu, List.getElem?_map, List.getElem?_eq_getElem hj, List.getD_eq_getElem?_getD, List.getElem?_eq_getElem hj]
    rfl
end Go.Proofs.YtmmbkfagchaocaaDoor.ka

namespace Go.Proofs.YtmmbkfagchaocaaDoor.kb
open Go.RowKit Go.PlainAid
open Go.Proofs.YtmmbkfagchaocaaDoor.pl Go.Proofs.YtmmbkfagchaocaaDoor.pi Go.Proofs.YtmmbkfagchaocaaDoor.pj Go.Proofs.YtmmbkfagchaocaaDoor.rf Go.Proofs.YtmmbkfagchaocaaDoor.ca Go.Proofs.YtmmbkfagchaocaaDoor.cp Go.Proofs.YtmmbkfagchaocaaDoor.ka
set_option linter.unusedVariables false

theorem cut_of (x s : ByteArray) (m : Int) (w : World) (hx : x.size = 32) (hsum : Calls Tryd.prog 105 #[.string s] w fun e w' => e = .returned (.string x) ∧ Below w.heap.size w w') :
    Calls Tryd.prog 99 #[.string s, .int .i64 m] w fun e w' => e = .returned (.string (x.extract 0 (wid m))) ∧ Below w.heap.size w w' := by
  have HSUM : Hid (Calls _ _ _ _ _) := hsum
  clear hsum
  by_cases h1 : m < 1
  · have d1 : decide (m < 1) = true := decide_eq_true h1
    rw [show wid m = 32 by unfold wid; rw [if_pos (.inl h1)]]
    clear h1
    go_enter Tryd.func99, Tryd.ntmps99
    go_wp2_with fail
    refine HSUM.out.mono ?_
    rintro e w1 ⟨rfl, hb1⟩
    have HB1 : Hid (Below _ _ _) := hb1
    clear hb1
    go_wp2
    go_ret
    exact ⟨rfl, HB1.out⟩
  · have d1 : decide (m < 1) = false := decide_eq_false h1
    by_cases h2 : 32 < m
    · have d2 : decide (32 < m) = true := decide_eq_true h2
      rw [show wid m = 32 by unfold wid; rw [if_pos (.inr h2)]]
      clear h1 h2
      go_enter Tryd.func99, Tryd.ntmps99
      go_wp2_with fail
      refine HSUM.out.mono ?_
      rintro e w1 ⟨rfl, hb1⟩
      have HB1 : Hid (Below _ _ _) := hb1
      clear hb1
      go_wp2
      go_ret
      exact ⟨rfl, HB1.out⟩
    · have d2 : decide (32 < m) = false := decide_eq_false h2
      obtain ⟨k, rfl⟩ := Int.eq_ofNat_of_zero_le (show 0 ≤ m by omega)
      have hky : k ≤ 32 := by omega
      have hkz : (k : Int) ≤ 32 := by omega
      rw [show wid (k : Int) = k by unfold wid; rw [if_neg (fun h => h.elim h1 h2)]; omega]
      clear h1 h2
      go_enter Tryd.func99, Tryd.ntmps99
      go_wp2_with fail
      refine HSUM.out.mono ?_
      rintro e w1 ⟨rfl, hb1⟩
      have HB1 : Hid (Below _ _ _) := hb1
      clear hb1
      go_wp2
      go_ret
      exact ⟨rfl, HB1.out⟩
theorem width (m : Int) (w : World) : Calls Tryd.prog 82 #[.int .i64 m] w fun e w' => e = .returned (.int .i64 (wid m)) ∧ w' = w := by
  by_cases h1 : m < 1
  · have d1 : decide (m < 1) = true := decide_eq_true h1
    rw [show wid m = 32 by unfold wid; rw [if_pos (.inl h1)]]
    clear h1
    go_enter Tryd.func82, Tryd.ntmps82
    go_wp2
    go_ret
    exact ⟨rfl, rfl⟩
  · have d1 : decide (m < 1) = false := decide_eq_false h1
    by_cases h2 : 32 < m
    · have d2 : decide (32 < m) = true := decide_eq_true h2
      rw [show wid m = 32 by unfold wid; rw [if_pos (.inr h2)]]
      clear h1 h2
      go_enter Tryd.func82, Tryd.ntmps82
      go_wp2
      go_ret
      exact ⟨rfl, rfl⟩
    · have d2 : decide (32 < m) = false := decide_eq_false h2
      obtain ⟨k, rfl⟩ := Int.eq_ofNat_of_zero_le (show 0 ≤ m by omega)
      rw [show wid (k : Int) = k by unfold wid; rw [if_neg (fun h => h.elim h1 h2)]; omega]
      clear h1 h2
      go_enter Tryd.func82, Tryd.ntmps82
      go_wp2
      go_ret
      exact ⟨rfl, rfl⟩
theorem rcut_of (x s : ByteArray) (m : Int) (w : World) (hx : x.size = 32) (hsum : Calls Tryd.prog 81 #[.string s] w fun e w' => e = .returned (.string x) ∧ Below w.heap.size w w') :
    Calls Tryd.prog 68 #[.string s, .int .i64 m] w fun e w' => e = .returned (.string (x.extract 0 (wid m))) ∧ Below w.heap.size w w' := by
  have HSUM : Hid (Calls _ _ _ _ _) := hsum
  have hw := wid_le m
  have W : Hid (∀ w', Calls _ _ _ _ _) := width m
  clear hsum
  generalize wid m = k at *
  have hk : (k : Int) ≤ 32 := by omega
  go_enter Tryd.func68, Tryd.ntmps68
  go_wp2_with fail
  refine HSUM.out.mono ?_
  rintro e w1 ⟨rfl, hb1⟩
  have HB1 : Hid (Below _ _ _) := hb1
  clear hb1
  go_wp2_with fail
  refine (W.out _).mono ?_
  rintro e w2 ⟨rfl, rfl⟩
  go_wp2
  go_ret
  exact ⟨rfl, HB1.out⟩
theorem rCut (s : ByteArray) (m : Int) (w : World) (hs : s.size ≤ 140737488352256) (T : Tab4 w) :
    Calls Tryd.prog 68 #[.string s, .int .i64 m] w fun e w' => e = .returned (.string ((sha s).extract 0 (wid m))) ∧ Below w.heap.size w w' :=
  rcut_of (sha s) s m w (sha_size s) (RSum s w hs T)
def cutS (s : ByteArray) (m : Int) : ByteArray := (sha s).extract 0 (wid m)
def EF (m : Int) : ByteArray := cutS ByteArray.empty m
def LF (m : Int) (d : ByteArray) : ByteArray := cutS ((⟨#[0]⟩ : ByteArray) ++ d) m
def NF (m : Int) (l r : ByteArray) : ByteArray := cutS ((⟨#[1]⟩ : ByteArray) ++ l ++ r) m
theorem cutS_size (s : ByteArray) (m : Int) : (cutS s m).size = wid m := by
  unfold cutS
  rw [ByteArray.size_extract, sha_size]
  have := wid_le m
  omega
theorem sz0 : (⟨#[0]⟩ : ByteArray).size = 1 := rfl
theorem sz1 : (⟨#[1]⟩ : ByteArray).size = 1 := rfl
theorem rNode (m : Int) (l r : ByteArray) (hd : l.size + r.size ≤ 140737488351232) (w : World) (T : Tab4 w) : Calls Tryd.prog 54 #[.int .i64 m, .string l, .string r] w fun e w' => e = .returned (.string (NF m l r)) ∧ Below w.heap.size w w' := by
  have hz : ((⟨#[1]⟩ : ByteArray) ++ l).size = 1 + l.size := by rw [ByteArray.size_append, sz1]
  have C : Hid (Calls _ _ _ _ _) := rCut ((⟨#[1]⟩ : ByteArray) ++ l ++ r) m w (by rw [ByteArray.size_append, hz]; omega) T
  have HE : Hid ((sha ((⟨#[1]⟩ : ByteArray) ++ l ++ r)).extract 0 (wid m) = NF m l r) := rfl
  rw [HE.out] at C
  have h0 := sz1
  clear T HE
  go_enter Tryd.func54, Tryd.ntmps54
  go_wp2_with fail
  refine C.out.mono ?_
  rintro e w1 ⟨rfl, hb⟩
  have B1 : Hid (Below w.heap.size w w1) := hb
  clear hb
  go_wp2
  go_ret
  exact ⟨rfl, B1.out⟩
end Go.Proofs.YtmmbkfagchaocaaDoor.kb

namespace Go.Proofs.YtmmbkfagchaocaaDoor.gb
open Go.RowKit Go.PlainAid
open Go.Proofs.YtmmbkfagchaocaaDoor.pl Go.Proofs.YtmmbkfagchaocaaDoor.pi Go.Proofs.YtmmbkfagchaocaaDoor.pj Go.Proofs.YtmmbkfagchaocaaDoor.ca Go.Proofs.YtmmbkfagchaocaaDoor.cb Go.Proofs.YtmmbkfagchaocaaDoor.cp Go.Proofs.YtmmbkfagchaocaaDoor.ka Go.Proofs.YtmmbkfagchaocaaDoor.kb Go.Proofs.YtmmbkfagchaocaaDoor.rf Go.Proofs.YtmmbkfagchaocaaDoor.ga
set_option linter.unusedVariables false

-- the root of leaves; the proofs
def RT (wd : Int) (xs : List ByteArray) : ByteArray := rootP (EF wd) (NF wd) (xs.map (LF wd))
theorem RT_nil (wd : Int) : RT wd [] = EF wd := rootP_nil _ _
theorem RT_one (wd : Int) (x : ByteArray) : RT wd [x] = LF wd x := rootP_one _ _ _
theorem RT_half (wd : Int) {xs : List ByteArray} (h : 2 ≤ xs.length) : RT wd xs = NF wd (RT wd (xs.take (half xs.length))) (RT wd (xs.drop (half xs.length))) := by
  unfold RT
  rw [rootP_half _ _ (l := xs.map (LF wd)) (by rw [List.length_map]; exact h), List.length_map, ← List.map_take, ← List.map_drop]
theorem RT_size (wd : Int) (xs : List ByteArray) : (RT wd xs).size = wid wd := by
  rcases Nat.lt_or_ge xs.length 2 with e | e
  · match xs, e with
    | [], _ => rw [RT_nil]; exact cutS_size _ _
    | [x], _ => rw [RT_one]; exact cutS_size _ _
  · rw [RT_half wd e]; exact cutS_size _ _
theorem RT_le (wd : Int) (xs : List ByteArray) : (RT wd xs).size ≤ 32 := by rw [RT_size]; exact wid_le wd
theorem RT_pos (wd : Int) (xs : List ByteArray) : 1 ≤ (RT wd xs).size := by rw [RT_size]; unfold wid; split <;> omega
def PTn (wd : Int) (i : Nat) (xs : List ByteArray) : List ByteArray := pathP (EF wd) (NF wd) i (xs.map (LF wd))
theorem PTn_one (wd : Int) (i : Nat) {xs : List ByteArray} (h : ¬ 2 ≤ xs.length) : PTn wd i xs = [] := pathP_one _ _ (by rw [List.length_map]; exact h)
theorem PTn_low (wd : Int) {i : Nat} {xs : List ByteArray} (h : 2 ≤ xs.length) (hi : i < half xs.length) : PTn wd i xs = PTn wd i (xs.take (half xs.length)) ++ [RT wd (xs.drop (half xs.length))] := by
  unfold PTn RT
  rw [pathP_low _ _ (l := xs.map (LF wd)) (by rw [List.length_map]; exact h) (by rw [List.length_map]; exact hi), List.length_map, ← List.map_take, ← List.map_drop]
theorem PTn_high (wd : Int) {i : Nat} {xs : List ByteArray} (h : 2 ≤ xs.length) (hi : ¬ i < half xs.length) : PTn wd i xs = PTn wd (i - half xs.length) (xs.drop (half xs.length)) ++ [RT wd (xs.take (half xs.length))] := by
  unfold PTn RT
  rw [pathP_high _ _ (l := xs.map (LF wd)) (by rw [List.length_map]; exact h) (by rw [List.length_map]; exact hi), List.length_map, ← List.map_take, ← List.map_drop]
theorem PTn_len (wd : Int) (i : Nat) (xs : List ByteArray) : (PTn wd i xs).length ≤ xs.length - 1 := pathP_len _ _ _ i _ (List.length_map _)
def QTn (wd : Int) (m : Nat) (xs : List ByteArray) (b : Bool) : List ByteArray := subP (EF wd) (NF wd) m (xs.map (LF wd)) b
theorem QTn_all (wd : Int) {m : Nat} {xs : List ByteArray} (b : Bool) (h : ¬ m < xs.length) : QTn wd m xs b = if b then [] else [RT wd xs] := subP_all _ _ (by rw [List.length_map]; exact h)
theorem QTn_low (wd : Int) {m : Nat} {xs : List ByteArray} (b : Bool) (h : m < xs.length) (h2 : 2 ≤ xs.length) (hm : m ≤ half xs.length) : QTn wd m xs b = QTn wd m (xs.take (half xs.length)) b ++ [RT wd (xs.drop (half xs.length))] := by
  unfold QTn RT
  rw [subP_low _ _ (l := xs.map (LF wd)) (by rw [List.length_map]; exact h) (by rw [List.length_map]; exact h2) (by rw [List.length_map]; exact hm), List.length_map, ← List.map_take, ← List.map_drop]
theorem QTn_high (wd : Int) {m : Nat} {xs : List ByteArray} (b : Bool) (h : m < xs.length) (h2 : 2 ≤ xs.length) (hm : ¬ m ≤ half xs.length) : QTn wd m xs b = QTn wd (m - half xs.length) (xs.drop (half xs.length)) false ++ [RT wd (xs.take (half xs.length))] := by
  unfold QTn RT
  rw [subP_high _ _ (l := xs.map (LF wd)) (by rw [List.length_map]; exact h) (by rw [List.length_map]; exact h2) (by rw [List.length_map]; exact hm), List.length_map, ← List.map_take, ← List.map_drop]
theorem QTn_len (wd : Int) (m : Nat) (xs : List ByteArray) (b : Bool) (h : 1 ≤ xs.length) : (QTn wd m xs b).length ≤ xs.length := subP_len _ _ _ m _ b (List.length_map _) h
theorem RT_take (wd : Int) {xs : List ByteArray} {m : Nat} (h2 : 2 ≤ xs.length) (h : half xs.length < m) (hm : m < xs.length) : RT wd (xs.take m) = NF wd (RT wd (xs.take (half xs.length))) (RT wd ((xs.drop (half xs.length)).take (m - half xs.length))) := by
  have := root_take (EF wd) (NF wd) (l := xs.map (LF wd)) (m := m) (by rw [List.length_map]; exact h2) (by rw [List.length_map]; exact h) (by rw [List.length_map]; exact hm)
  rw [List.length_map] at this
  unfold RT
  rw [List.map_take, this, List.map_take, List.map_take, List.map_drop]
-- what the four answer
def PT (wd i : Int) (xs : List ByteArray) : List ByteArray := if 0 ≤ i ∧ i < xs.length then PTn wd i.toNat xs else []
def PE (i : Int) (xs : List ByteArray) : Int := if 0 ≤ i ∧ i < xs.length then 0 else 81
def QT (wd m : Int) (xs : List ByteArray) : List ByteArray := if 1 ≤ m ∧ m ≤ xs.length then QTn wd m.toNat xs true else []
def QE (m : Int) (xs : List ByteArray) : Int := if 0 ≤ m ∧ m ≤ xs.length then 0 else 80
theorem PT_len (wd i : Int) (xs : List ByteArray) : (PT wd i xs).length ≤ xs.length := by
  unfold PT
  split
  · have := PTn_len wd i.toNat xs; omega
  · simp
theorem QT_len (wd m : Int) (xs : List ByteArray) : (QT wd m xs).length ≤ xs.length := by
  unfold QT
  split
  · exact QTn_len wd m.toNat xs true (by omega)
  · simp
def NT (wd L I : Int) (xs : List ByteArray) : ByteArray := if okA L I ∧ (I + 1) * 2 ^ L.toNat ≤ xs.length then RT wd ((xs.drop (I * 2 ^ L.toNat).toNat).take (2 ^ L.toNat)) else ByteArray.empty
def NE (L I : Int) (xs : List ByteArray) : Int := if okA L I then (if (I + 1) * 2 ^ L.toNat ≤ xs.length then 0 else 80) else 50
-- leaves that a machine can hold
structure Fits (xs : List ByteArray) : Prop where
  each : ∀ x ∈ xs, x.size ≤ 140737488352000
  many : xs.length * 16 ≤ 140737488351232
theorem Fits.take {xs : List ByteArray} (h : Fits xs) (k : Nat) : Fits (xs.take k) := ⟨fun x hx => h.each x (List.mem_of_mem_take hx), by have := h.many; rw [List.length_take]; omega⟩
theorem Fits.drop {xs : List ByteArray} (h : Fits xs) (k : Nat) : Fits (xs.drop k) := ⟨fun x hx => h.each x (List.mem_of_mem_drop hx), by have := h.many; rw [List.length_drop]; omega⟩
-- a list of texts and an error
def Listed (w w' : World) (e : Ending) (ts : List ByteArray) (c : Int) : Prop := ∃ u, e = .returned (.tuple #[u, .int .i64 c]) ∧ w'.ownsRow w.heap.size 9 1 u ts.length (ts.map Value.string)
end Go.Proofs.YtmmbkfagchaocaaDoor.gb

namespace Go.Proofs.YtmmbkfagchaocaaDoor.nb
open Go.RowKit Go.PlainAid
open Go.Proofs.YtmmbkfagchaocaaDoor.pl Go.Proofs.YtmmbkfagchaocaaDoor.pi Go.Proofs.YtmmbkfagchaocaaDoor.pj Go.Proofs.YtmmbkfagchaocaaDoor.rf Go.Proofs.YtmmbkfagchaocaaDoor.ca Go.Proofs.YtmmbkfagchaocaaDoor.cb Go.Proofs.YtmmbkfagchaocaaDoor.cp Go.Proofs.YtmmbkfagchaocaaDoor.cs Go.Proofs.YtmmbkfagchaocaaDoor.ka Go.Proofs.YtmmbkfagchaocaaDoor.kb Go.Proofs.YtmmbkfagchaocaaDoor.ga Go.Proofs.YtmmbkfagchaocaaDoor.gb Go.Proofs.YtmmbkfagchaocaaDoor.na
set_option linter.unusedVariables false

theorem wid_in (wd : Int) : 1 ≤ wid wd ∧ wid wd ≤ 32 := by unfold wid; split <;> omega
-- what Check answers; a frontier as nodes; Push; Merge; Root
def GoodF (wd lo hi : Int) (hs : List ByteArray) : Prop := okR lo hi ∧ (covI lo hi).length = hs.length ∧ ∀ h ∈ hs, h.size = wid wd
noncomputable def chkE (wd lo hi : Int) (hs : List ByteArray) : Int := if okR lo hi then (if (covI lo hi).length = hs.length then (if ∀ h ∈ hs, h.size = wid wd then 0 else 72) else 71) else 10
theorem chk_ok {wd lo hi : Int} {hs : List ByteArray} : chkE wd lo hi hs = 0 ↔ GoodF wd lo hi hs := by
  unfold chkE GoodF
  by_cases h1 : okR lo hi
  · by_cases h2 : (covI lo hi).length = hs.length
    · by_cases h3 : ∀ h ∈ hs, h.size = wid wd
      · rw [if_pos h1, if_pos h2, if_pos h3]; exact ⟨fun _ => ⟨h1, h2, h3⟩, fun _ => rfl⟩
      · rw [if_pos h1, if_pos h2, if_neg h3]
        exact ⟨fun h => by omega, fun h => absurd h.2.2 h3⟩
    · rw [if_pos h1, if_neg h2]
      exact ⟨fun h => by omega, fun h => absurd h.2.1 h2⟩
  · rw [if_neg h1]
    exact ⟨fun h => by omega, fun h => absurd h.1 h1⟩
def opened (lo hi : Int) (hs : List ByteArray) : List (Nd ByteArray) := (covI lo hi).zip hs
noncomputable def pushE (wd lo hi : Int) (hs : List ByteArray) (h : ByteArray) : Int := if chkE wd lo hi hs = 0 then (if h.size = wid wd then (if hi = 4611686018427387904 then 10 else 0) else 72) else chkE wd lo hi hs
def pushR (wd lo hi : Int) (hs : List ByteArray) (h : ByteArray) : List (Nd ByteArray) × List (Nd ByteArray) := joinR (NF wd) (opened lo hi hs).reverse ((0, hi.toNat), h)
def labs (r : List (Nd ByteArray)) : List ByteArray := r.reverse.map Prod.snd
noncomputable def mergeE (wd lo hi : Int) (hs : List ByteArray) (lo' hi' : Int) (hs' : List ByteArray) : Int := if chkE wd lo hi hs = 0 then (if chkE wd lo' hi' hs' = 0 then (if hi = lo' then 0 else 70) else chkE wd lo' hi' hs') else chkE wd lo hi hs
def mergeR (wd lo hi : Int) (hs : List ByteArray) (lo' hi' : Int) (hs' : List ByteArray) : List (Nd ByteArray) × List (Nd ByteArray) := runR (NF wd) (opened lo hi hs).reverse (opened lo' hi' hs')
noncomputable def rootE (wd lo hi : Int) (hs : List ByteArray) : Int := if chkE wd lo hi hs = 0 then (if lo = 0 then 0 else 10) else chkE wd lo hi hs
theorem opened_fst {wd lo hi : Int} {hs : List ByteArray} (h : GoodF wd lo hi hs) : (opened lo hi hs).map Prod.fst = covI lo hi := by
  unfold opened
  exact List.map_fst_zip (by have := h.2.1; omega)
theorem opened_snd {wd lo hi : Int} {hs : List ByteArray} (h : GoodF wd lo hi hs) : (opened lo hi hs).map Prod.snd = hs := by
  unfold opened
  exact List.map_snd_zip (by have := h.2.1; omega)
theorem opened_len {wd lo hi : Int} {hs : List ByteArray} (h : GoodF wd lo hi hs) : (opened lo hi hs).length = hs.length := by
  unfold opened
  rw [List.length_zip, h.2.1, Nat.min_self]
theorem covI_nat {lo hi : Nat} (h1 : lo ≤ hi) (h2 : hi ≤ 4611686018427387904) : covI lo hi = cov lo hi := by
  unfold covI
  rw [if_pos ⟨by omega, by omega, by omega⟩]
  simp
theorem good_form {wd lo hi : Int} {hs : List ByteArray} (h : GoodF wd lo hi hs) : ∃ a b : Nat, lo = a ∧ hi = b ∧ a ≤ b ∧ b ≤ 4611686018427387904 ∧ hs.length ≤ 122 := by
  obtain ⟨⟨h1, h2, h3⟩, h4, _⟩ := h
  refine ⟨lo.toNat, hi.toNat, by omega, by omega, by omega, by omega, ?_⟩
  rw [← h4]
  exact covI_len lo hi
-- every hash of what Push and Merge make has the width
def Wide (wd : Int) (ns : List (Nd ByteArray)) : Prop := ∀ n ∈ ns, n.2.size = wid wd
theorem wide_join {wd : Int} (rs : List (Nd ByteArray)) : ∀ x, Wide wd rs → x.2.size = wid wd → Wide wd (joinR (NF wd) rs x).1 ∧ Wide wd (joinR (NF wd) rs x).2 := by
  induction rs with
  | nil =>
    intro x _ hx
    refine ⟨fun n hn => ?_, fun n hn => ?_⟩
    · simp [joinR] at hn; subst hn; exact hx
    · simp [joinR] at hn
  | cons a rs ih =>
    intro x hr hx
    by_cases hh : halves a.1 x.1
    · rw [joinR_yes _ rs hh]
      have hu : (upN (NF wd) a x).2.size = wid wd := cutS_size _ _
      obtain ⟨g1, g2⟩ := ih (upN (NF wd) a x) (fun n hn => hr n (by simp [hn])) hu
      refine ⟨g1, fun n hn => ?_⟩
      rcases List.mem_cons.1 hn with rfl | hn
      · exact hu
      · exact g2 n hn
    · rw [joinR_no _ rs hh]
      refine ⟨fun n hn => ?_, fun n hn => by simp at hn⟩
      rcases List.mem_cons.1 hn with rfl | hn
      · exact hx
      · exact hr n hn
theorem wide_run {wd : Int} (xs : List (Nd ByteArray)) : ∀ rs, Wide wd rs → Wide wd xs → Wide wd (runR (NF wd) rs xs).1 ∧ Wide wd (runR (NF wd) rs xs).2 := by
  induction xs with
  | nil => intro rs h _; exact ⟨h, fun n hn => by simp [runR] at hn⟩
  | cons x xs ih =>
    intro rs h hx
    obtain ⟨g1, g2⟩ := wide_join rs x h (hx x (by simp))
    obtain ⟨g3, g4⟩ := ih _ g1 (fun n hn => hx n (by simp [hn]))
    refine ⟨g3, fun n hn => ?_⟩
    rcases List.mem_append.1 hn with hn | hn
    · exact g2 n hn
    · exact g4 n hn
theorem wide_open {wd lo hi : Int} {hs : List ByteArray} (h : GoodF wd lo hi hs) : Wide wd (opened lo hi hs) := by
  intro n hn
  have : n.2 ∈ hs := by
    have h1 := opened_snd h
    rw [← h1]
    exact List.mem_map_of_mem hn
  exact h.2.2 _ this
theorem wide_rev {wd : Int} {ns : List (Nd ByteArray)} (h : Wide wd ns) : Wide wd ns.reverse := fun n hn => h n (List.mem_reverse.1 hn)
-- behind a Push, a Merge, the frontier is a good one
theorem push_good {wd lo hi : Int} {hs : List ByteArray} {h : ByteArray} (g : GoodF wd lo hi hs) (hh : h.size = wid wd) (hb : hi ≠ 4611686018427387904) : GoodF wd lo (hi + 1) (labs (pushR wd lo hi hs h).1) := by
  have hf := opened_fst g
  have hw := wide_join (wd := wd) (opened lo hi hs).reverse ((0, hi.toNat), h) (wide_rev (wide_open g)) hh
  obtain ⟨a, b, rfl, rfl, h1, h2, h3⟩ := good_form g
  rw [covI_nat h1 h2] at hf
  have hj := join_cov (NF wd) (p := b) (k := 0) (by omega) (Nat.one_dvd _) (by simp; omega) ((0, (b : Int).toNat), h) (by simp) a h1 _ hf
  have hi1 : ((b : Int) + 1) = ((b + 1 : Nat) : Int) := by omega
  refine ⟨⟨by omega, by omega, by omega⟩, ?_, ?_⟩
  · rw [hi1, covI_nat (by omega) (by omega)]
    rw [Nat.pow_zero] at hj
    rw [← hj]
    simp [labs, pushR]
  · intro y hy
    unfold labs at hy
    obtain ⟨n, hn, rfl⟩ := List.mem_map.1 hy
    exact hw.1 n (List.mem_reverse.1 hn)
theorem merge_good {wd lo hi lo' hi' : Int} {hs hs' : List ByteArray} (g : GoodF wd lo hi hs) (g' : GoodF wd lo' hi' hs') (he : hi = lo') : GoodF wd lo hi' (labs (mergeR wd lo hi hs lo' hi' hs').1) := by
  have hf := opened_fst g
  have hf' := opened_fst g'
  have hw := wide_run (wd := wd) (opened lo' hi' hs') (opened lo hi hs).reverse (wide_rev (wide_open g)) (wide_open g')
  subst he
  obtain ⟨a, b, rfl, rfl, h1, h2, h3⟩ := good_form g
  obtain ⟨b', c, e1, rfl, h4, h5, h6⟩ := good_form g'
  obtain rfl : b' = b := by omega
  rw [covI_nat h1 h2] at hf
  rw [covI_nat h4 h5] at hf'
  have hj := run_cov (NF wd) (hi := c) (by rw [p62]; omega) a b' h1 h4 _ _ hf hf'
  refine ⟨⟨by omega, by omega, by omega⟩, ?_, ?_⟩
  · rw [covI_nat (by omega) (by omega), ← hj]
    simp [labs, mergeR]
  · intro y hy
    unfold labs at hy
    obtain ⟨n, hn, rfl⟩ := List.mem_map.1 hy
    exact hw.1 n (List.mem_reverse.1 hn)
end Go.Proofs.YtmmbkfagchaocaaDoor.nb

namespace Go.Proofs.YtmmbkfagchaocaaDoor.oa
open Go.RowKit Go.PlainAid
open Go.Proofs.YtmmbkfagchaocaaDoor.ca Go.Proofs.YtmmbkfagchaocaaDoor.cp Go.Proofs.YtmmbkfagchaocaaDoor.ka Go.Proofs.YtmmbkfagchaocaaDoor.na
set_option linter.unusedVariables false

-- a node with its hash; a list of them in memory
abbrev Md := Nd ByteArray
def md (n : Md) : Value := .agg #[.int .i64 (n.1.1 : Nat), .int .i64 (n.1.2 : Nat), .string n.2]
def ml (n : Md) : List Value := [.int .i64 (n.1.1 : Nat), .int .i64 (n.1.2 : Nat), .string n.2]
def mls (L : List Md) : List Value := L.flatMap ml
theorem mls_len (L : List Md) : (mls L).length = L.length * 3 := by
  induction L with
  | nil => rfl
  | cons a L ih =>
    show (ml a ++ mls L).length = _
    rw [List.length_append, ih, List.length_cons]
    show 3 + _ = _
    omega
theorem mls_app (L M : List Md) : mls (L ++ M) = mls L ++ mls M := by unfold mls; exact List.flatMap_append
theorem mls_one (a : Md) : mls [a] = ml a := by show ml a ++ [] = _; rw [List.append_nil]
theorem mls_get (L : List Md) (i : Nat) (a : Md) (h : L[i]? = some a) : (mls L)[i * 3]? = some (.int .i64 (a.1.1 : Nat)) ∧ (mls L)[i * 3 + 1]? = some (.int .i64 (a.1.2 : Nat)) ∧ (mls L)[i * 3 + 2]? = some (.string a.2) := by
  induction L generalizing i with
  | nil => simp at h
  | cons b L ih =>
    cases i with
    | zero =>
      obtain rfl : b = a := by simpa using h
      exact ⟨rfl, rfl, rfl⟩
    | succ i =>
      have := ih i (by simpa using h)
      show (ml b ++ mls L)[(i + 1) * 3]? = _ ∧ (ml b ++ mls L)[(i + 1) * 3 + 1]? = _ ∧ (ml b ++ mls L)[(i + 1) * 3 + 2]? = _
      have hl : (ml b).length = 3 := rfl
      rw [List.getElem?_append_right (by omega), List.getElem?_append_right (by omega), List.getElem?_append_right (by omega), hl, show (i + 1) * 3 - 3 = i * 3 by omega, show (i + 1) * 3 + 1 - 3 = i * 3 + 1 by omega, show (i + 1) * 3 + 2 - 3 = i * 3 + 2 by omega]
      exact this
theorem mls_take (L : List Md) (k : Nat) : mls (L.take k) = (mls L).take (k * 3) := by
  induction L generalizing k with
  | nil => simp [mls]
  | cons b L ih =>
    cases k with
    | zero => simp [mls]
    | succ k =>
      show ml b ++ mls (L.take k) = (ml b ++ mls L).take ((k + 1) * 3)
      have hl : (ml b).length = 3 := rfl
      rw [List.take_append, hl, ih, show (k + 1) * 3 - 3 = k * 3 by omega, List.take_of_length_le (l := ml b) (by rw [hl]; omega)]
theorem hiM : (Tryd.prog.info? 38).map (fun i => (i.zero, i.size, i.bytes)) = some (some (.agg #[.int .i64 0, .int .i64 0, .string ByteArray.empty]), 3, 32) := by kernel_rfl
theorem three_cells (W : World) (x y z : Value) (t : TypeId) : ∀ (j : Nat) (u : Value), [x, y, z][j]? = some u → (W.alloc (.cells #[x, y, z] t)).cell? (Addr.add ⟨W.heap.size, 0, none⟩ j) = some u := by
  intro j u hu
  rw [show (Addr.add ⟨W.heap.size, 0, none⟩ j) = ⟨W.heap.size, j, none⟩ by cases j <;> simp [Addr.add], World.cell?_alloc_at _ _ _ _ rfl]
  simpa using hu
theorem one_made (a : Md) : ∀ u ∈ ml a, u.oneCell' = true := by
  intro u hu
  simp only [ml, List.mem_cons, List.not_mem_nil, or_false] at hu
  rcases hu with rfl | rfl | rfl <;> rfl
theorem one_mades (L : List Md) : ∀ u ∈ mls L, u.oneCell' = true := by
  intro u hu
  obtain ⟨a, _, ha⟩ := List.mem_flatMap.1 hu
  exact one_made a u ha
-- a list of them, wherever it lies
def ReadsM (w : World) (v : Value) (L : List Md) : Prop :=
  ∃ a cap, v = .slice a L.length cap ∧ (L.length = 0 ∨ ∃ b, a = some ⟨b, 0, none⟩ ∧ ∀ (i : Nat) (x : Md), L[i]? = some x → w.cell? ⟨b, i * 3, none⟩ = some (.int .i64 (x.1.1 : Nat)) ∧ w.cell? ⟨b, i * 3 + 1, none⟩ = some (.int .i64 (x.1.2 : Nat)) ∧ w.cell? ⟨b, i * 3 + 2, none⟩ = some (.string x.2))
theorem ReadsM.later {w w' : World} {v : Value} {L : List Md} (h : ReadsM w v L) (hb : Below w.heap.size w w') : ReadsM w' v L := by
  obtain ⟨a, cap, rfl, h0 | ⟨b, rfl, hc⟩⟩ := h
  · exact ⟨a, cap, rfl, .inl h0⟩
  · refine ⟨_, cap, rfl, .inr ⟨b, rfl, fun i x hx => ?_⟩⟩
    obtain ⟨c1, c2, c3⟩ := hc i x hx
    exact ⟨(hb.cell (p := ⟨b, i * 3, none⟩) (World.block_lt_of_cell? _ _ c1)).trans c1, (hb.cell (p := ⟨b, i * 3 + 1, none⟩) (World.block_lt_of_cell? _ _ c2)).trans c2, (hb.cell (p := ⟨b, i * 3 + 2, none⟩) (World.block_lt_of_cell? _ _ c3)).trans c3⟩
theorem own_readsM {w : World} {B n : Nat} {v : Value} {L : List Md} (h : w.ownsRow B 38 3 v n (mls L)) : ReadsM w v L := by
  have hn : L.length = n := by have := h.1; rw [mls_len] at this; omega
  subst hn
  rcases h.2 with ⟨rfl, h0⟩ | ⟨g, cap, cur, rfl, _, hg, _⟩
  · exact ⟨none, 0, by rw [h0], .inl h0⟩
  · refine ⟨_, cap, rfl, .inr ⟨g, rfl, fun i x hx => ?_⟩⟩
    have hi := (List.getElem?_eq_some_iff.1 hx).1
    obtain ⟨c1, c2, c3⟩ := mls_get L i x hx
    exact ⟨(h.cellAt (i * 3) (by omega)).trans c1, (h.cellAt (i * 3 + 1) (by omega)).trans c2, (h.cellAt (i * 3 + 2) (by omega)).trans c3⟩
theorem row_atM {L : List Md} {w : World} {a : Option Addr} {cap n : Nat} {x : Md} {j : Nat} (h : ReadsM w (.slice a n cap) L) (hx : L[j]? = some x) : ∃ b, a = some ⟨b, 0, none⟩ ∧ w.cell? ⟨b, j * 3, none⟩ = some (.int .i64 (x.1.1 : Nat)) ∧ w.cell? ⟨b, j * 3 + 1, none⟩ = some (.int .i64 (x.1.2 : Nat)) ∧ w.cell? ⟨b, j * 3 + 2, none⟩ = some (.string x.2) := by
  obtain ⟨a', cap', e1, hc⟩ := h
  injection e1 with e1 e2 e3
  subst e1
  have := (List.getElem?_eq_some_iff.1 hx).1
  rcases hc with h0 | ⟨b, e4, hc⟩
  · omega
  · exact ⟨b, e4, hc j _ hx⟩
theorem reads_newsM {w : World} {ad : Addr} {n cap : Nat} {L : List Md} (h : ReadsM w (.slice (some ad) n cap) L) : ∀ (j : Nat) (u : Value), (mls L)[j]? = some u → w.cell? (ad.add j) = some u := by
  intro j u hu
  have hj : j < L.length * 3 := by have := (List.getElem?_eq_some_iff.1 hu).1; rwa [mls_len] at this
  have hi : j / 3 < L.length := by omega
  obtain ⟨x, hx⟩ : ∃ x, L[j / 3]? = some x := ⟨_, List.getElem?_eq_getElem hi⟩
  obtain ⟨b, e, c1, c2, c3⟩ := row_atM h hx
  obtain rfl := Option.some.inj e
  obtain ⟨g1, g2, g3⟩ := mls_get L (j / 3) x hx
  rw [show (Addr.add ⟨b, 0, none⟩ j) = ⟨b, j, none⟩ by cases j <;> simp [Addr.add]]
  rcases (show j = j / 3 * 3 ∨ j = j / 3 * 3 + 1 ∨ j = j / 3 * 3 + 2 by omega) with e | e | e
  · rw [e] at hu ⊢; rw [g1] at hu; rw [c1, ← hu]
  · rw [e] at hu ⊢; rw [g2] at hu; rw [c2, ← hu]
  · rw [e] at hu ⊢; rw [g3] at hu; rw [c3, ← hu]
end Go.Proofs.YtmmbkfagchaocaaDoor.oa

namespace Go.Proofs.YtmmbkfagchaocaaDoor.nc
open Go.RowKit Go.PlainAid
open Go.Proofs.YtmmbkfagchaocaaDoor.pl Go.Proofs.YtmmbkfagchaocaaDoor.pi Go.Proofs.YtmmbkfagchaocaaDoor.pj Go.Proofs.YtmmbkfagchaocaaDoor.rf Go.Proofs.YtmmbkfagchaocaaDoor.ca Go.Proofs.YtmmbkfagchaocaaDoor.cb Go.Proofs.YtmmbkfagchaocaaDoor.cp Go.Proofs.YtmmbkfagchaocaaDoor.cs Go.Proofs.YtmmbkfagchaocaaDoor.ka Go.Proofs.YtmmbkfagchaocaaDoor.kb Go.Proofs.YtmmbkfagchaocaaDoor.ga Go.Proofs.YtmmbkfagchaocaaDoor.gb Go.Proofs.YtmmbkfagchaocaaDoor.na Go.Proofs.YtmmbkfagchaocaaDoor.nb
set_option linter.unusedVariables false

theorem cov_in (p hi : Nat) : ∀ a ∈ cov p hi, p ≤ a.2 * 2 ^ a.1 ∧ (a.2 + 1) * 2 ^ a.1 ≤ hi ∧ a.1 ≤ 62 := by
  refine cov_fold (p := p) (hi := hi) (fun p hi => ∀ a ∈ cov p hi, p ≤ a.2 * 2 ^ a.1 ∧ (a.2 + 1) * 2 ^ a.1 ≤ hi ∧ a.1 ≤ 62) ?_ ?_
  · intro p h a ha
    rw [cov_end h] at ha
    cases ha
  · intro p k hlt hl ih a ha
    rw [cov_at hlt hl] at ha
    rcases List.mem_cons.1 ha with rfl | ha
    · have e : p / 2 ^ k * 2 ^ k = p := Nat.div_mul_cancel hl.2.1
      refine ⟨by show p ≤ p / 2 ^ k * 2 ^ k; omega, ?_, hl.1⟩
      show (p / 2 ^ k + 1) * 2 ^ k ≤ hi
      rw [Nat.add_mul, e, Nat.one_mul]
      have := hl.2.2.1
      omega
    · have := ih a ha
      exact ⟨by have := p2 k; omega, this.2⟩
-- the hash of each node over leaves' hashes
def HL (wd : Int) (f : Nat → ByteArray) : Nat → Nat → ByteArray
  | 0, i => f i
  | k + 1, i => NF wd (HL wd f k (2 * i)) (HL wd f k (2 * i + 1))
theorem HL_up (wd : Int) (f : Nat → ByteArray) : ∀ k i, k < 62 → HL wd f (k + 1) i = NF wd (HL wd f k (2 * i)) (HL wd f k (2 * i + 1)) := fun _ _ _ => rfl
theorem HL_size {wd : Int} {f : Nat → ByteArray} (hf : ∀ i, (f i).size = wid wd) : ∀ k i, (HL wd f k i).size = wid wd
  | 0, i => hf i
  | _ + 1, _ => cutS_size _ _
-- the hashes of a range's pieces
def covH (wd : Int) (f : Nat → ByteArray) (lo hi : Nat) : List ByteArray := (cov lo hi).map fun a => HL wd f a.1 a.2
theorem covH_len (wd : Int) (f : Nat → ByteArray) (lo hi : Nat) : (covH wd f lo hi).length = (cov lo hi).length := List.length_map _
theorem covH_none (wd : Int) (f : Nat → ByteArray) (p : Nat) : covH wd f p p = [] := by unfold covH; rw [cov_end (Nat.lt_irrefl p)]; rfl
theorem covH_good {wd : Int} {f : Nat → ByteArray} (hf : ∀ i, (f i).size = wid wd) {lo hi : Nat} (h1 : lo ≤ hi) (h2 : hi ≤ 4611686018427387904) : GoodF wd lo hi (covH wd f lo hi) := by
  refine ⟨⟨by omega, by omega, by omega⟩, ?_, ?_⟩
  · rw [covI_nat h1 h2, covH_len]
  · intro h hh
    obtain ⟨a, _, rfl⟩ := List.mem_map.1 hh
    exact HL_size hf _ _
theorem opened_own (wd : Int) (f : Nat → ByteArray) {lo hi : Nat} (h1 : lo ≤ hi) (h2 : hi ≤ 4611686018427387904) : Own (HL wd f) (opened lo hi (covH wd f lo hi)) := by
  unfold opened covH
  rw [covI_nat h1 h2]
  intro n hn
  obtain ⟨j, hj⟩ := List.mem_iff_getElem?.1 hn
  rw [List.getElem?_zip_eq_some] at hj
  obtain ⟨e1, e2⟩ := hj
  rw [List.getElem?_map, e1] at e2
  simpa using e2.symm
theorem own_rev {H : Nat → Nat → ByteArray} {ns : List (Nd ByteArray)} (h : Own H ns) : Own H ns.reverse := fun n hn => h n (List.mem_reverse.1 hn)
-- a leaf pushed behind the true ones
theorem push_true {wd : Int} {f : Nat → ByteArray} (hf : ∀ i, (f i).size = wid wd) {lo hi : Nat} (h1 : lo ≤ hi) (h2 : hi < 4611686018427387904) :
    labs (pushR wd lo hi (covH wd f lo hi) (f hi)).1 = covH wd f lo (hi + 1) ∧ (pushR wd lo hi (covH wd f lo hi) (f hi)).2.length + (cov lo (hi + 1)).length = (cov lo hi).length + 1 ∧ ∀ t y, (pushR wd lo hi (covH wd f lo hi) (f hi)).2[t]? = some y → y = ((t + 1, hi / 2 ^ (t + 1)), HL wd f (t + 1) (hi / 2 ^ (t + 1))) ∧ t < 62 := by
  have g := covH_good hf h1 (Nat.le_of_lt h2)
  have hfst := opened_fst g
  rw [covI_nat h1 (by omega)] at hfst
  have ho := own_join (NF wd) (HL_up wd f) (opened lo hi (covH wd f lo hi)).reverse ((0, (hi : Int).toNat), f hi) (own_rev (opened_own wd f h1 (by omega))) (by simp [HL])
  have hj := join_cov (NF wd) (p := hi) (k := 0) (by omega) (Nat.one_dvd _) (by simp; omega) ((0, (hi : Int).toNat), f hi) (by simp) lo h1 _ hfst
  have hc := joinR_count (NF wd) (opened lo hi (covH wd f lo hi)).reverse ((0, (hi : Int).toNat), f hi)
  rw [Nat.pow_zero] at hj
  refine ⟨?_, ?_, ?_⟩
  · unfold labs pushR
    rw [own_labels (H := HL wd f) (own_rev ho.1), hj]
    rfl
  · have e1 := congrArg List.length hj
    have e2 := congrArg List.length hfst
    rw [List.length_map, List.length_reverse] at e1
    rw [List.length_map] at e2
    rw [List.length_reverse, e2] at hc
    unfold pushR
    omega
  · intro t y hy
    obtain ⟨g1, g2⟩ := joinR_whole (NF wd) _ _ t y hy
    have hm := ho.2 y (List.mem_of_getElem? hy)
    simp only [Int.toNat_natCast, Nat.zero_add] at g1 g2
    refine ⟨?_, g2⟩
    rw [g1] at hm
    exact Prod.ext g1 hm
theorem merge_true {wd : Int} {f : Nat → ByteArray} (hf : ∀ i, (f i).size = wid wd) {lo p hi : Nat} (h1 : lo ≤ p) (h2 : p ≤ hi) (h3 : hi ≤ 4611686018427387904) :
    labs (mergeR wd lo p (covH wd f lo p) p hi (covH wd f p hi)).1 = covH wd f lo hi ∧ (mergeR wd lo p (covH wd f lo p) p hi (covH wd f p hi)).2.length + (cov lo hi).length = (cov lo p).length + (cov p hi).length := by
  have g := covH_good hf h1 (by omega)
  have g' := covH_good hf h2 h3
  have hfst := opened_fst g
  have hfst' := opened_fst g'
  rw [covI_nat h1 (by omega)] at hfst
  rw [covI_nat h2 h3] at hfst'
  have ho := own_run (NF wd) (HL_up wd f) (opened p hi (covH wd f p hi)) (opened lo p (covH wd f lo p)).reverse (own_rev (opened_own wd f h1 (by omega))) (opened_own wd f h2 h3)
  have hj := run_cov (NF wd) (hi := hi) (by rw [p62]; omega) lo p h1 h2 _ _ hfst hfst'
  have hc := runR_count (NF wd) (opened p hi (covH wd f p hi)) (opened lo p (covH wd f lo p)).reverse
  refine ⟨?_, ?_⟩
  · unfold labs mergeR
    rw [own_labels (H := HL wd f) (own_rev ho.1), hj]
    rfl
  · have e1 := congrArg List.length hj
    have e2 := congrArg List.length hfst
    have e3 := congrArg List.length hfst'
    rw [List.length_map, List.length_reverse] at e1
    rw [List.length_map] at e2 e3
    rw [List.length_reverse, e2, e3] at hc
    unfold mergeR
    omega
-- the nodes' hashes are roots
def leafAt (wd : Int) (L : List ByteArray) (q : Nat) (j : Nat) : ByteArray := L.getD (j - q) (EF wd)
theorem leafAt_size {wd : Int} {L : List ByteArray} (hL : ∀ x ∈ L, x.size = wid wd) (q : Nat) : ∀ j, (leafAt wd L q j).size = wid wd := by
  intro j
  unfold leafAt
  rw [List.getD_eq_getElem?_getD]
  by_cases h : j - q < L.length
  · rw [List.getElem?_eq_getElem h]
    exact hL _ (List.getElem_mem h)
  · rw [List.getElem?_eq_none (by omega)]
    exact cutS_size _ _
theorem HL_root (wd : Int) (L : List ByteArray) (q : Nat) : ∀ k i, q ≤ i * 2 ^ k → (i + 1) * 2 ^ k ≤ q + L.length → HL wd (leafAt wd L q) k i = rootP (EF wd) (NF wd) ((L.drop (i * 2 ^ k - q)).take (2 ^ k))
  | 0, i, h0, h1 => by
    simp only [Nat.pow_zero, Nat.mul_one] at h0 h1 ⊢
    show L.getD (i - q) (EF wd) = _
    have hlt : i - q < L.length := by omega
    rw [List.drop_eq_getElem_cons hlt, List.take_succ_cons, List.take_zero, rootP_one, List.getD_eq_getElem?_getD, List.getElem?_eq_getElem hlt]
    rfl
  | k + 1, i, h0, h1 => by
    have hp := p2 k
    have e2 : 2 ^ (k + 1) = 2 * 2 ^ k := p2s k
    have e3 : i * 2 ^ (k + 1) = 2 * i * 2 ^ k := by rw [e2, ← Nat.mul_assoc, Nat.mul_comm i 2]
    have e4 : (2 * i + 1) * 2 ^ k = 2 * i * 2 ^ k + 2 ^ k := by rw [Nat.add_mul, Nat.one_mul]
    have e5 : (2 * i + 1 + 1) * 2 ^ k = 2 * i * 2 ^ k + 2 * 2 ^ k := by rw [Nat.add_mul, e4, Nat.one_mul]; omega
    have e6 : (i + 1) * 2 ^ (k + 1) = 2 * i * 2 ^ k + 2 * 2 ^ k := by rw [Nat.add_mul, e3, Nat.one_mul, e2]
    rw [e3] at h0
    rw [e6] at h1
    have hl := HL_root wd L q k (2 * i) h0 (by rw [e4]; omega)
    have hr := HL_root wd L q k (2 * i + 1) (by rw [e4]; omega) (by rw [e5]; omega)
    show NF wd (HL wd (leafAt wd L q) k (2 * i)) (HL wd (leafAt wd L q) k (2 * i + 1)) = _
    have hlen : ((L.drop (i * 2 ^ (k + 1) - q)).take (2 ^ (k + 1))).length = 2 ^ (k + 1) := by rw [List.length_take, List.length_drop, e3]; omega
    rw [rootP_two (EF wd) (NF wd) (j := k) (by rw [hlen, e2]; omega) (by rw [hlen]; omega), hl, hr, e3, List.take_take, List.drop_take, List.drop_drop, e4, e2]
    rw [show min (2 ^ k) (2 * 2 ^ k) = 2 ^ k by omega, show 2 * 2 ^ k - 2 ^ k = 2 ^ k by omega, show 2 * i * 2 ^ k + 2 ^ k - q = 2 * i * 2 ^ k - q + 2 ^ k by omega]
-- leaves of a list
def LX (wd : Int) (xs : List ByteArray) : List ByteArray := xs.map (LF wd)
theorem LX_size (wd : Int) (xs : List ByteArray) : ∀ x ∈ LX wd xs, x.size = wid wd := by
  intro x hx
  obtain ⟨y, _, rfl⟩ := List.mem_map.1 hx
  exact cutS_size _ _
theorem LX_len (wd : Int) (xs : List ByteArray) : (LX wd xs).length = xs.length := List.length_map _
theorem HL_node (wd : Int) (xs : List ByteArray) (k i : Nat) (h : (i + 1) * 2 ^ k ≤ xs.length) : HL wd (leafAt wd (LX wd xs) 0) k i = RT wd ((xs.drop (i * 2 ^ k)).take (2 ^ k)) := by
  rw [HL_root wd (LX wd xs) 0 k i (Nat.zero_le _) (by rw [LX_len]; omega)]
  unfold RT LX
  rw [Nat.sub_zero, List.map_take, List.map_drop]
theorem fold_root (wd : Int) (xs : List ByteArray) (n : Nat) (hn : n ≤ xs.length) (hb : n ≤ 4611686018427387904) : foldP (EF wd) (NF wd) (covH wd (leafAt wd (LX wd xs) 0) 0 n) = RT wd (xs.take n) := by
  have hl : ((LX wd xs).take n).length = n := by rw [List.length_take, LX_len]; omega
  have h := fold_all (EF wd) (NF wd) ((LX wd xs).take n) (by rw [hl]; omega)
  rw [hl] at h
  unfold RT
  rw [List.map_take]
  rw [show (xs.map (LF wd)).take n = (LX wd xs).take n from rfl, ← h]
  congr 1
  unfold covH
  apply List.map_congr_left
  intro a ha
  obtain ⟨g1, g2, g3⟩ := cov_in 0 n a ha
  rw [HL_root wd (LX wd xs) 0 a.1 a.2 (Nat.zero_le _) (by rw [LX_len]; omega), Nat.sub_zero]
  congr 1
  unfold piece
  have e : (a.2 + 1) * 2 ^ a.1 = a.2 * 2 ^ a.1 + 2 ^ a.1 := by rw [Nat.add_mul, Nat.one_mul]
  rw [List.drop_take, List.take_take, Nat.min_eq_left (by omega)]
end Go.Proofs.YtmmbkfagchaocaaDoor.nc

namespace Go.Proofs.YtmmbkfagchaocaaDoor.ob
open Go.RowKit Go.PlainAid
open Go.Proofs.YtmmbkfagchaocaaDoor.pl Go.Proofs.YtmmbkfagchaocaaDoor.pi Go.Proofs.YtmmbkfagchaocaaDoor.pj Go.Proofs.YtmmbkfagchaocaaDoor.rf Go.Proofs.YtmmbkfagchaocaaDoor.ca Go.Proofs.YtmmbkfagchaocaaDoor.cb Go.Proofs.YtmmbkfagchaocaaDoor.cp Go.Proofs.YtmmbkfagchaocaaDoor.cs Go.Proofs.YtmmbkfagchaocaaDoor.ka Go.Proofs.YtmmbkfagchaocaaDoor.kb Go.Proofs.YtmmbkfagchaocaaDoor.ga Go.Proofs.YtmmbkfagchaocaaDoor.gb Go.Proofs.YtmmbkfagchaocaaDoor.na Go.Proofs.YtmmbkfagchaocaaDoor.nb Go.Proofs.YtmmbkfagchaocaaDoor.nc Go.Proofs.YtmmbkfagchaocaaDoor.oa
set_option linter.unusedVariables false

-- a frontier; answers
abbrev FV (lo hi : Int) (u : Value) : Value := .agg #[.int .i64 lo, .int .i64 hi, u]
def pick {α : Type} (c : Int) (x y : α) : α := if c = 0 then x else y
def Texts (w : World) (B : Nat) (u : Value) (hs : List ByteArray) : Prop := w.ownsRow B 9 1 u hs.length (hs.map Value.string)
def Mades (w : World) (B : Nat) (u : Value) (ms : List Md) : Prop := w.ownsRow B 38 3 u ms.length (mls ms)
def Told (w w' : World) (e : Ending) (lo hi : Int) (hs : List ByteArray) (ms : List Md) (c : Int) : Prop := ∃ u m, e = .returned (.tuple #[FV lo hi u, m, .int .i64 c]) ∧ Texts w' w.heap.size u hs ∧ Mades w' w.heap.size m ms
theorem Texts.later {w w' : World} {B : Nat} {u : Value} {hs : List ByteArray} (h : Texts w B u hs) (hb : Below w.heap.size w w') : Texts w' B u hs := own_later h hb
theorem Mades.later {w w' : World} {B : Nat} {u : Value} {ms : List Md} (h : Mades w B u ms) (hb : Below w.heap.size w w') : Mades w' B u ms := own_later h hb
theorem Texts.down {w : World} {B B' : Nat} {u : Value} {hs : List ByteArray} (h : Texts w B' u hs) (hB : B ≤ B') : Texts w B u hs := own_down h hB
theorem Mades.down {w : World} {B B' : Nat} {u : Value} {ms : List Md} (h : Mades w B' u ms) (hB : B ≤ B') : Mades w B u ms := own_down h hB
theorem Texts.reads {w : World} {B : Nat} {u : Value} {hs : List ByteArray} (h : Texts w B u hs) : ReadsT w u hs := own_readsT h
theorem Mades.reads {w : World} {B : Nat} {u : Value} {ms : List Md} (h : Mades w B u ms) : ReadsM w u ms := own_readsM h
def PushC (T : World → Prop) : Prop := ∀ (wd lo hi : Int) (u : Value) (hs : List ByteArray) (h : ByteArray) (w : World), i64 wd → i64 lo → i64 hi → T w → ReadsT w u hs → Fits hs → h.size ≤ 140737488352000 → Calls Tryd.prog 5 #[.int .i64 wd, FV lo hi u, .string h] w fun e w' => Told w w' e (pick (pushE wd lo hi hs h) lo 0) (pick (pushE wd lo hi hs h) (hi + 1) 0) (pick (pushE wd lo hi hs h) (labs (pushR wd lo hi hs h).1) []) (pick (pushE wd lo hi hs h) (pushR wd lo hi hs h).2 []) (pushE wd lo hi hs h) ∧ Below w.heap.size w w'
def MergeC (T : World → Prop) : Prop := ∀ (wd lo hi : Int) (u : Value) (hs : List ByteArray) (lo' hi' : Int) (u' : Value) (hs' : List ByteArray) (w : World), i64 wd → i64 lo → i64 hi → i64 lo' → i64 hi' → T w → ReadsT w u hs → Fits hs → ReadsT w u' hs' → Fits hs' → Calls Tryd.prog 6 #[.int .i64 wd, FV lo hi u, FV lo' hi' u'] w fun e w' => Told w w' e (pick (mergeE wd lo hi hs lo' hi' hs') lo 0) (pick (mergeE wd lo hi hs lo' hi' hs') hi' 0) (pick (mergeE wd lo hi hs lo' hi' hs') (labs (mergeR wd lo hi hs lo' hi' hs').1) []) (pick (mergeE wd lo hi hs lo' hi' hs') (mergeR wd lo hi hs lo' hi' hs').2 []) (mergeE wd lo hi hs lo' hi' hs') ∧ Below w.heap.size w w'
-- what is small fits
theorem fits_small {wd : Int} {hs : List ByteArray} (h1 : hs.length ≤ 122) (h2 : ∀ h ∈ hs, h.size = wid wd) : Fits hs := ⟨fun x hx => by rw [h2 x hx]; have := wid_in wd; omega, by omega⟩
theorem fits_good {wd lo hi : Int} {hs : List ByteArray} (h : GoodF wd lo hi hs) : Fits hs := by
  obtain ⟨a, b, _, _, _, _, h3⟩ := good_form h
  exact fits_small h3 h.2.2
-- over the true hashes
theorem push_at {wd : Int} {f : Nat → ByteArray} (hf : ∀ i, (f i).size = wid wd) {lo hi : Nat} (h1 : lo ≤ hi) (h2 : hi < 4611686018427387904) : pushE wd lo hi (covH wd f lo hi) (f hi) = 0 := by
  unfold pushE
  rw [if_pos (chk_ok.2 (covH_good hf h1 (Nat.le_of_lt h2))), if_pos (hf hi), if_neg (by omega)]
theorem merge_at {wd : Int} {f : Nat → ByteArray} (hf : ∀ i, (f i).size = wid wd) {lo p hi : Nat} (h1 : lo ≤ p) (h2 : p ≤ hi) (h3 : hi ≤ 4611686018427387904) : mergeE wd lo p (covH wd f lo p) p hi (covH wd f p hi) = 0 := by
  unfold mergeE
  rw [if_pos (chk_ok.2 (covH_good hf h1 (by omega))), if_pos (chk_ok.2 (covH_good hf h2 h3)), if_pos rfl]
def Push1 (T : World → Prop) : Prop := ∀ (wd : Int) (f : Nat → ByteArray), (∀ i, (f i).size = wid wd) → ∀ (lo hi : Nat) (u : Value) (w : World), i64 wd → lo ≤ hi → hi < 4611686018427387904 → T w → ReadsT w u (covH wd f lo hi) → Calls Tryd.prog 5 #[.int .i64 wd, FV lo hi u, .string (f hi)] w fun e w' => (∃ u m, e = .returned (.tuple #[FV lo ((hi : Int) + 1) u, m, .int .i64 0]) ∧ Texts w' w.heap.size u (covH wd f lo (hi + 1)) ∧ Mades w' w.heap.size m (pushR wd lo hi (covH wd f lo hi) (f hi)).2) ∧ Below w.heap.size w w'
theorem push1 {T : World → Prop} (C : PushC T) : Push1 T := by
  intro wd f hf lo hi u w hwd h1 h2 hT hR
  have hp := wid_in wd
  have := C wd lo hi u (covH wd f lo hi) (f hi) w hwd (i64_nat (by omega)) (i64_nat (by omega)) hT hR (fits_good (covH_good hf h1 (Nat.le_of_lt h2))) (by rw [hf]; omega)
  rw [push_at hf h1 h2] at this
  unfold pick at this
  simp only [if_true] at this
  rw [(push_true hf h1 h2).1] at this
  exact this
def Merge1 (T : World → Prop) : Prop := ∀ (wd : Int) (f : Nat → ByteArray), (∀ i, (f i).size = wid wd) → ∀ (lo p hi : Nat) (u u' : Value) (w : World), i64 wd → lo ≤ p → p ≤ hi → hi ≤ 4611686018427387904 → T w → ReadsT w u (covH wd f lo p) → ReadsT w u' (covH wd f p hi) → Calls Tryd.prog 6 #[.int .i64 wd, FV lo p u, FV p hi u'] w fun e w' => (∃ u m, e = .returned (.tuple #[FV lo hi u, m, .int .i64 0]) ∧ Texts w' w.heap.size u (covH wd f lo hi) ∧ Mades w' w.heap.size m (mergeR wd lo p (covH wd f lo p) p hi (covH wd f p hi)).2) ∧ Below w.heap.size w w'
theorem merge1 {T : World → Prop} (C : MergeC T) : Merge1 T := by
  intro wd f hf lo p hi u u' w hwd h1 h2 h3 hT hR hR'
  have := C wd lo p u (covH wd f lo p) p hi u' (covH wd f p hi) w hwd (i64_nat (by omega)) (i64_nat (by omega)) (i64_nat (by omega)) (i64_nat (by omega)) hT hR (fits_good (covH_good hf h1 (by omega))) hR' (fits_good (covH_good hf h2 h3))
  rw [merge_at hf h1 h2 h3] at this
  unfold pick at this
  simp only [if_true] at this
  rw [(merge_true hf h1 h2 h3).1] at this
  exact this
end Go.Proofs.YtmmbkfagchaocaaDoor.ob

namespace Go.Proofs.YtmmbkfagchaocaaDoor.sj
open Go.Shelf
set_option linter.unusedVariables false
def lays156_ren : Go.Shelf.Ren := ⟨fun | 156 => 100 | 165 => 106 | 166 => 107 | 169 => 108 | 240 => 114 | 241 => 115 | 276 => 125 | 277 => 126 | n => n, fun | 31 => 22 | 9 => 9 | 3 => 3 | 4 => 4 | 0 => 0 | 20 => 20 | 72 => 154 | 76 => 158 | 70 => 152 | 37 => 60 | 75 => 157 | 127 => 166 | 164 => 177 | 5 => 5 | 80 => 160 | n => n, fun | n => n⟩
theorem lays156 : Go.Proofs.Lays.n156 Tryd.prog lays156_ren := {
  mixed := by kernel_rfl
  f156 := Tryd.func100.trans (congrArg some (by kernel_rfl))
  f165 := Tryd.func106.trans (congrArg some (by kernel_rfl))
  f166 := Tryd.func107.trans (congrArg some (by kernel_rfl))
  f169 := Tryd.func108.trans (congrArg some (by kernel_rfl))
  f240 := Tryd.func114.trans (congrArg some (by kernel_rfl))
  f241 := Tryd.func115.trans (congrArg some (by kernel_rfl))
  f276 := Tryd.func125.trans (congrArg some (by kernel_rfl))
  f277 := Tryd.func126.trans (congrArg some (by kernel_rfl))
  t0 := Tryd.underlying0
  a0 := Tryd.isAgg0
  z0 := Tryd.sizeOf0
  v0 := Tryd.zeroValue0
  t3 := Tryd.underlying3
  a3 := Tryd.isAgg3
  z3 := Tryd.sizeOf3
  v3 := Tryd.zeroValue3
  t4 := Tryd.underlying4
  a4 := Tryd.isAgg4
  z4 := Tryd.sizeOf4
  v4 := Tryd.zeroValue4
  t9 := Tryd.underlying9
  a9 := Tryd.isAgg9
  z9 := Tryd.sizeOf9
  v9 := Tryd.zeroValue9
  t20 := Tryd.underlying20
  a20 := Tryd.isAgg20
  z20 := Tryd.sizeOf20
  v20 := Tryd.zeroValue20
  t31 := Tryd.underlying22
  a31 := Tryd.isAgg22
  z31 := Tryd.sizeOf22
  v31 := Tryd.zeroValue22
  t37 := Tryd.underlying60
  a37 := Tryd.isAgg60
  z37 := Tryd.sizeOf60
  v37 := Tryd.zeroValue60
  t70 := Tryd.underlying152
  a70 := Tryd.isAgg152
  z70 := Tryd.sizeOf152
  v70 := Tryd.zeroValue152
  t72 := Tryd.underlying154
  a72 := Tryd.isAgg154
  z72 := Tryd.sizeOf154
  v72 := Tryd.zeroValue154
  t75 := Tryd.underlying157
  a75 := Tryd.isAgg157
  z75 := Tryd.sizeOf157
  v75 := Tryd.zeroValue157
  t76 := Tryd.underlying158
  a76 := Tryd.isAgg158
  z76 := Tryd.sizeOf158
  v76 := Tryd.zeroValue158
  t127 := Tryd.underlying166
  a127 := Tryd.isAgg166
  z127 := Tryd.sizeOf166
  v127 := Tryd.zeroValue166
  t164 := Tryd.underlying177
  a164 := Tryd.isAgg177
  z164 := Tryd.sizeOf177
  v164 := Tryd.zeroValue177 }
theorem extra156 : Builder.Extra Tryd.prog lays156_ren := {
  sizeBuilder := by kernel_rfl
  liesBuilder := by kernel_rfl
  t5 := Tryd.underlying5
  a5 := Tryd.isAgg5
  z5 := Tryd.sizeOf5
  v5 := Tryd.zeroValue5
  infoByte := by kernel_rfl
  cellsByte := by kernel_rfl
  sizeByte := by kernel_rfl
  neB5 := by decide }
end Go.Proofs.YtmmbkfagchaocaaDoor.sj

namespace Go.Proofs.YtmmbkfagchaocaaDoor.kc
open Go.RowKit Go.PlainAid
open Go.Proofs.YtmmbkfagchaocaaDoor.pl Go.Proofs.YtmmbkfagchaocaaDoor.pi Go.Proofs.YtmmbkfagchaocaaDoor.pj Go.Proofs.YtmmbkfagchaocaaDoor.rf Go.Proofs.YtmmbkfagchaocaaDoor.ca Go.Proofs.YtmmbkfagchaocaaDoor.cp Go.Proofs.YtmmbkfagchaocaaDoor.ka Go.Proofs.YtmmbkfagchaocaaDoor.kb Go.Proofs.YtmmbkfagchaocaaDoor.sj
set_option linter.unusedVariables false

theorem cutT (s : ByteArray) (m : Int) (w : World) (hs : s.size ≤ 1125899906842624) (T : Tab w) :
    Calls Tryd.prog 99 #[.string s, .int .i64 m] w fun e w' => e = .returned (.string (cutS s m)) ∧ Below w.heap.size w w' :=
  cut_of (sha s) s m w (sha_size s) (Sum s w (by omega) T)
-- the parts, one behind the other
def cat (xs : List ByteArray) : ByteArray := ⟨(Lib.join (xs.map (·.data.toList)) (⟨#[]⟩ : ByteArray).data.toList).toArray⟩
theorem cat_size (xs : List ByteArray) : (Lib.join (xs.map (·.data.toList)) (⟨#[]⟩ : ByteArray).data.toList).length = (cat xs).size := by
  unfold cat
  simp [ByteArray.size]
theorem cat_two (a b : ByteArray) : cat [a, b] = a ++ b := by
  apply ByteArray.ext
  rw [ByteArray.data_append]
  simp [cat, Lib.join, List.intercalate]
theorem cat_three (a b c : ByteArray) : cat [a, b, c] = a ++ b ++ c := by
  apply ByteArray.ext
  rw [ByteArray.data_append, ByteArray.data_append]
  simp [cat, Lib.join, List.intercalate]
theorem joins (xs : List ByteArray) (n b c : Nat) (hn : xs.length = n) (w : World) (hc : ∀ (j : Nat) x, xs[j]? = some x → w.cell? ⟨b, 0 + j, none⟩ = some (.string x)) (hb : b < w.heap.size) (h3 : n ≤ 3) (hcap : n ≤ c) (hs : (cat xs).size ≤ 281474976710656) :
    Calls Tryd.prog 100 #[.slice (some ⟨b, 0, none⟩) n c, .string ⟨#[]⟩] w fun e w' => e = .returned (.string (cat xs)) ∧ Below w.heap.size w w' := by
  subst hn
  exact Any.strings_Join_48 lays156 extra156 b 0 c xs ⟨#[]⟩ w hc hb (by omega) hcap (by rw [cat_size]; omega)
theorem hash (xs : List ByteArray) (n b c : Nat) (hn : xs.length = n) (wd : Int) (w : World) (T : Tab w) (hc : ∀ (j : Nat) x, xs[j]? = some x → w.cell? ⟨b, 0 + j, none⟩ = some (.string x)) (hb : b < w.heap.size) (h3 : n ≤ 3) (hcap : n ≤ c) (hs : (cat xs).size ≤ 281474976710656) :
    Calls Tryd.prog 91 #[.int .i64 wd, .slice (some ⟨b, 0, none⟩) n c] w fun e w' => e = .returned (.string (cutS (cat xs) wd)) ∧ Below w.heap.size w w' := by
  have J : Hid (Calls _ _ _ _ _) := joins xs n b c hn w hc hb h3 hcap hs
  have C : Hid (∀ w, Tab w → Calls _ _ _ _ _) := fun w T => cutT (cat xs) wd w (by omega) T
  have HT : Hid (Tab w) := T
  obtain ⟨s, HS⟩ : ∃ s, Hid (cat xs = s) := ⟨_, rfl⟩
  rw [HS.out] at J C ⊢
  obtain ⟨r, HR⟩ : ∃ r, Hid (cutS s wd = r) := ⟨_, rfl⟩
  rw [HR.out] at C ⊢
  clear hc hs T hn hb
  go_enter Tryd.func91, Tryd.ntmps91
  go_wp2_with fail
  refine J.out.mono ?_
  rintro e w1 ⟨rfl, hb⟩
  have B1 : Hid (Below w.heap.size w w1) := hb
  have T1 : Hid (Tab w1) := HT.out.down hb
  clear hb
  go_wp2_with fail
  refine (C.out _ T1.out).mono ?_
  rintro e w2 ⟨rfl, hb⟩
  have B2 : Hid (Below w.heap.size w w2) := over B1.out hb
  clear hb
  go_wp2
  go_ret
  exact ⟨rfl, B2.out⟩
theorem hash0 (wd : Int) (w : World) (T : Tab w) :
    Calls Tryd.prog 91 #[.int .i64 wd, .slice none 0 0] w fun e w' => e = .returned (.string (EF wd)) ∧ Below w.heap.size w w' := by
  have J : Hid (Calls _ _ _ _ _) := Any.strings_Join_none lays156 extra156 none 0 ⟨#[]⟩ w
  have C : Hid (∀ w, Tab w → Calls _ _ _ _ _) := fun w T => cutT ⟨#[]⟩ wd w (by decide) T
  have HT : Hid (Tab w) := T
  have HE : Hid (cutS ⟨#[]⟩ wd = EF wd) := rfl
  rw [HE.out] at C
  obtain ⟨r, HR⟩ : ∃ r, Hid (EF wd = r) := ⟨_, rfl⟩
  rw [HR.out] at C ⊢
  clear T HE
  go_enter Tryd.func91, Tryd.ntmps91
  go_wp2_with fail
  refine J.out.mono ?_
  rintro e w1 ⟨rfl, hw⟩
  rw [hw]
  clear hw
  go_wp2_with fail
  refine (C.out _ HT.out).mono ?_
  rintro e w2 ⟨rfl, hb⟩
  have B2 : Hid (Below w.heap.size w w2) := hb
  clear hb
  go_wp2
  go_ret
  exact ⟨rfl, B2.out⟩
theorem pEmpty (wd : Int) (w : World) (T : Tab w) :
    Calls Tryd.prog 84 #[.int .i64 wd] w fun e w' => e = .returned (.string (EF wd)) ∧ Below w.heap.size w w' := by
  have C : Hid (Calls _ _ _ _ _) := hash0 wd w T
  obtain ⟨r, HR⟩ : ∃ r, Hid (EF wd = r) := ⟨_, rfl⟩
  rw [HR.out] at C ⊢
  clear T
  go_enter Tryd.func84, Tryd.ntmps84
  go_wp2_with fail
  refine C.out.mono ?_
  rintro e w1 ⟨rfl, hb⟩
  have B1 : Hid (Below w.heap.size w w1) := hb
  clear hb
  go_wp2
  go_ret
  exact ⟨rfl, B1.out⟩
theorem new_cells (w : World) (vs : Array Value) (t : TypeId) (xs : List ByteArray) (h : vs = (xs.map Value.string).toArray) : ∀ (j : Nat) x, xs[j]? = some x → (w.alloc (.cells vs t)).cell? ⟨w.heap.size, 0 + j, none⟩ = some (.string x) := by
  intro j x hx
  subst h
  rw [World.cell?_alloc_at _ _ _ _ rfl, Nat.zero_add]
  simp [hx]
theorem pNode (wd : Int) (l r : ByteArray) (hd : l.size + r.size ≤ 281474976702464) (w : World) (T : Tab w) :
    Calls Tryd.prog 80 #[.int .i64 wd, .string l, .string r] w fun e w' => e = .returned (.string (NF wd l r)) ∧ Below w.heap.size w w' := by
  have C : Hid (Calls _ _ _ _ _) := hash [⟨#[1]⟩, l, r] 3 w.heap.size 3 rfl wd (w.alloc (.cells #[.string ⟨#[1]⟩, .string l, .string r] 9)) (T.down ((Below.refl _ _).alloc (Nat.le_refl _) _)) (new_cells w _ _ _ rfl) (by simp) (by omega) (by omega) (by rw [cat_three, ByteArray.size_append, ByteArray.size_append, sz1]; omega)
  have HE : Hid (cutS (cat [⟨#[1]⟩, l, r]) wd = NF wd l r) := by show _ = _; rw [cat_three]; rfl
  rw [HE.out] at C
  have B0 : Hid (Below w.heap.size w (w.alloc (.cells #[.string ⟨#[1]⟩, .string l, .string r] 9))) := (Below.refl _ _).alloc (Nat.le_refl _) _
  obtain ⟨q, HR⟩ : ∃ q, Hid (NF wd l r = q) := ⟨_, rfl⟩
  rw [HR.out] at C ⊢
  clear T HE
  go_enter Tryd.func80, Tryd.ntmps80
  go_wp2_with fail
  refine C.out.mono ?_
  rintro e w1 ⟨rfl, hb⟩
  have B1 : Hid (Below w.heap.size w w1) := over B0.out hb
  clear hb
  go_wp2
  go_ret
  exact ⟨rfl, B1.out⟩
end Go.Proofs.YtmmbkfagchaocaaDoor.kc

namespace Go.Proofs.YtmmbkfagchaocaaDoor.qa
open Go.RowKit Go.PlainAid
open Go.Proofs.YtmmbkfagchaocaaDoor.pl Go.Proofs.YtmmbkfagchaocaaDoor.pi Go.Proofs.YtmmbkfagchaocaaDoor.pj Go.Proofs.YtmmbkfagchaocaaDoor.rf Go.Proofs.YtmmbkfagchaocaaDoor.ca Go.Proofs.YtmmbkfagchaocaaDoor.cb Go.Proofs.YtmmbkfagchaocaaDoor.cp Go.Proofs.YtmmbkfagchaocaaDoor.cs Go.Proofs.YtmmbkfagchaocaaDoor.ka Go.Proofs.YtmmbkfagchaocaaDoor.kb Go.Proofs.YtmmbkfagchaocaaDoor.ga Go.Proofs.YtmmbkfagchaocaaDoor.gb Go.Proofs.YtmmbkfagchaocaaDoor.na Go.Proofs.YtmmbkfagchaocaaDoor.nb Go.Proofs.YtmmbkfagchaocaaDoor.nc Go.Proofs.YtmmbkfagchaocaaDoor.oa Go.Proofs.YtmmbkfagchaocaaDoor.ob
set_option linter.unusedVariables false

theorem getD_at (xs : List ByteArray) (k : Nat) (h : k < xs.length) : xs.getD k ByteArray.empty = xs[k] := by
  rw [List.getD_eq_getElem?_getD, List.getElem?_eq_getElem h]; rfl
theorem lists_eq {xs ys : List ByteArray} (hl : xs.length = ys.length) (h : ∀ j, j < xs.length → xs.getD j ByteArray.empty = ys.getD j ByteArray.empty) : xs = ys := by
  apply List.ext_getElem hl
  intro j h1 h2
  have := h j h1
  rwa [getD_at _ _ h1, getD_at _ _ h2] at this
theorem beqL (a b : ByteArray) : (a.toList == b.toList) = decide (a = b) := by
  by_cases h : a = b
  · subst h; simp
  · rw [decide_eq_false h, beq_eq_false_iff_ne, ByteArray.toList_eq, ByteArray.toList_eq]
    intro e
    exact h (ByteArray.ext (Array.ext' e))
theorem beqLit (a : ByteArray) (l : List UInt8) : (a.toList == l) = decide (a = ⟨l.toArray⟩) := by
  rw [← beqL, ByteArray.toList_eq, ByteArray.toList_eq]
-- two lists held against each other: nothing is written
set_option maxHeartbeats 1600000 in
theorem sameT (va vb : Value) (xs ys : List ByteArray) (w : World) (h1 : ReadsT w va xs) (h2 : ReadsT w vb ys) (hz : xs.length ≤ 140737488355328) :
    Calls Tryd.prog 34 #[va, vb] w fun e w' => e = .returned (.bool (decide (xs = ys))) ∧ ∃ m, w' = w.drewN m := by
  obtain ⟨a, cap, rfl, _, h1⟩ := h1
  obtain ⟨a', cap', rfl, _, h2⟩ := h2
  by_cases hl : xs.length = ys.length
  · have HC : Hid (xs.length = 0 ∨ ∃ b off, a = some ⟨b, off, none⟩ ∧ ∀ i, i < xs.length → w.cell? ⟨b, off + i, none⟩ = some (.string (xs.getD i ByteArray.empty))) := h1
    rw [← hl] at h2 ⊢
    have HC' : Hid (xs.length = 0 ∨ ∃ b off, a' = some ⟨b, off, none⟩ ∧ ∀ i, i < xs.length → w.cell? ⟨b, off + i, none⟩ = some (.string (ys.getD i ByteArray.empty))) := h2
    have HL : Hid (xs.length = ys.length) := hl
    obtain ⟨n, HN⟩ : ∃ n, Hid (xs.length = n) := ⟨_, rfl⟩
    obtain ⟨r, HR⟩ : ∃ r, Hid (decide (xs = ys) = r) := ⟨_, rfl⟩
    rw [HR.out]
    rw [HN.out] at HC HC' hz ⊢
    clear h1 h2 hl
    have hl' : ((n : Int) == (n : Int)) = true := beq_self_eq_true _
    go_enter Tryd.func34, Tryd.ntmps34
    go_wp2
    go_loopw [5] (fun i wr => ∃ k m : Nat, k ≤ n ∧ i = .int .i64 k ∧ Hid (∀ j, j < k → xs.getD j ByteArray.empty = ys.getD j ByteArray.empty) ∧ wr = w.drewN m) (fun i _ => (n - intOf i).toNat)
    case atStart => exact ⟨0, 0, by omega, rfl, fun j h => by omega, rfl⟩
    case round =>
      obtain ⟨k, m, hk, rfl, HS, rfl⟩ := hrel
      by_cases hlt : k < n
      · have hlt' : (k : Int) < n := by omega
        obtain ⟨b, off, rfl, hc⟩ : ∃ b off, a = some ⟨b, off, none⟩ ∧ ∀ i, i < n → w.cell? ⟨b, off + i, none⟩ = some (.string (xs.getD i ByteArray.empty)) := by
          rcases HC.out with h | h
          · omega
          · exact h
        obtain ⟨b', off', rfl, hc'⟩ : ∃ b off, a' = some ⟨b, off, none⟩ ∧ ∀ i, i < n → w.cell? ⟨b, off + i, none⟩ = some (.string (ys.getD i ByteArray.empty)) := by
          rcases HC'.out with h | h
          · omega
          · exact h
        obtain ⟨X, HX⟩ : ∃ X, Hid (xs.getD k ByteArray.empty = X) := ⟨_, rfl⟩
        obtain ⟨Y, HY⟩ : ∃ X, Hid (ys.getD k ByteArray.empty = X) := ⟨_, rfl⟩
        have c1 := hc k hlt
        have c2 := hc' k hlt
        rw [HX.out] at c1
        rw [HY.out] at c2
        clear hc hc'
        by_cases hxy : X = Y
        · have hb : (X.toList == Y.toList) = true := by rw [beqL]; exact decide_eq_true hxy
          have HS1 : Hid (∀ j, j < k + 1 → xs.getD j ByteArray.empty = ys.getD j ByteArray.empty) := fun j hj => by
            rcases Nat.lt_or_ge j k with h | h
            · exact HS.out j h
            · obtain rfl : j = k := by omega
              rw [HX.out, HY.out, hxy]
          clear hxy
          go_wp2_with fail
          go_quiet (fail)
          go_wp2
          go_roundw
          case rel => exact ⟨k + 1, _, by omega, by go_num, HS1.out, rfl⟩
          case measure => simp [intOf]; omega
        · have hb : (X.toList == Y.toList) = false := by rw [beqL]; exact decide_eq_false hxy
          have HE : Hid (r = false) := by
            show _ = _
            rw [← HR.out]
            apply decide_eq_false
            intro e
            apply hxy
            rw [← HX.out, ← HY.out, e]
          clear hxy
          go_wp2_with fail
          go_quiet (fail)
          go_wp2
          go_ret
          exact ⟨by rw [HE.out]; rfl, m + nq, by rw [World.drewN_drewN]⟩
      · have hlt' : ¬ (k : Int) < n := by omega
        have HE : Hid (r = true) := by
          show _ = _
          rw [← HR.out]
          apply decide_eq_true
          exact lists_eq HL.out (fun j hj => HS.out j (by rw [HN.out] at hj; omega))
        go_wp2
        go_ret
        exact ⟨by rw [HE.out]; rfl, _, rfl⟩
  · rw [decide_eq_false (fun e => hl (by rw [e]))]
    have hb : ((xs.length : Int) == (ys.length : Int)) = false := by rw [beq_eq_false_iff_ne]; omega
    clear hl h1 h2
    go_enter Tryd.func34, Tryd.ntmps34
    go_wp2
    go_ret
    exact ⟨rfl, 0, rfl⟩
-- a list held against itself
theorem sameT_yes (va vb : Value) (xs : List ByteArray) (w : World) (h1 : ReadsT w va xs) (h2 : ReadsT w vb xs) (hz : xs.length ≤ 140737488355328) :
    Calls Tryd.prog 34 #[va, vb] w fun e w' => e = .returned (.bool true) ∧ ∃ m, w' = w.drewN m := by
  have := sameT va vb xs xs w h1 h2 hz
  rwa [decide_eq_true rfl] at this
-- a frontier in a block of its own
structure Fb (w : World) (b : Nat) (lo hi : Int) (u : Value) : Prop where
  x : w.cell? ⟨b, 0, none⟩ = some (.int .i64 lo)
  y : w.cell? ⟨b, 1, none⟩ = some (.int .i64 hi)
  z : w.cell? ⟨b, 2, none⟩ = some u
theorem Fb.lt {w : World} {b : Nat} {lo hi : Int} {u : Value} (h : Fb w b lo hi u) : b < w.heap.size := World.block_lt_of_cell? _ _ h.x
theorem Fb.later {w w' : World} {b : Nat} {lo hi : Int} {u : Value} (h : Fb w b lo hi u) (hb : Below w.heap.size w w') : Fb w' b lo hi u :=
  ⟨(hb.cell (p := ⟨b, 0, none⟩) h.lt).trans h.x, (hb.cell (p := ⟨b, 1, none⟩) h.lt).trans h.y, (hb.cell (p := ⟨b, 2, none⟩) h.lt).trans h.z⟩
theorem fb_new (w : World) (lo hi : Int) (u : Value) : Fb (w.alloc (.cells #[.int .i64 lo, .int .i64 hi, u] 24)) w.heap.size lo hi u :=
  ⟨by rw [World.cell?_alloc_at _ _ _ _ rfl]; rfl, by rw [World.cell?_alloc_at _ _ _ _ rfl]; rfl, by rw [World.cell?_alloc_at _ _ _ _ rfl]; rfl⟩
theorem fb_old {w : World} {b : Nat} {lo hi : Int} {u : Value} (h : Fb w b lo hi u) (o : Obj) : Fb (w.alloc o) b lo hi u := h.later ((Below.refl _ _).alloc (Nat.le_refl _) _)
set_option maxHeartbeats 1600000 in
theorem same_yes (lo hi : Int) (u u' : Value) (hs : List ByteArray) (w : World) (h1 : ReadsT w u hs) (h2 : ReadsT w u' hs) (hz : hs.length ≤ 140737488355328) :
    Calls Tryd.prog 9 #[FV lo hi u, FV lo hi u'] w fun e w' => e = .returned (.bool true) ∧ Below w.heap.size w w' := by
  have BA : Below w.heap.size w ((w.alloc (.cells #[.int .i64 lo, .int .i64 hi, u] 24)).alloc (.cells #[.int .i64 lo, .int .i64 hi, u'] 24)) := ((Below.refl _ _).alloc (Nat.le_refl _) _).alloc (by simp) _
  have F1 := fb_old (fb_new w lo hi u) (.cells #[.int .i64 lo, .int .i64 hi, u'] 24)
  have F2 := fb_new (w.alloc (.cells #[.int .i64 lo, .int .i64 hi, u] 24)) lo hi u'
  rw [show (w.alloc (.cells #[.int .i64 lo, .int .i64 hi, u] 24)).heap.size = w.heap.size + 1 by simp] at F2
  have C : Hid (Calls _ _ _ _ _) := sameT_yes u u' hs _ (h1.later BA) (h2.later BA) hz
  have B0 : Hid (Below _ _ _) := BA
  obtain ⟨a, cap, rfl, _, _⟩ := h1
  obtain ⟨a', cap', rfl, _, _⟩ := h2
  obtain ⟨c1, c2, c3⟩ := F1
  obtain ⟨d1, d2, d3⟩ := F2
  clear BA
  go_enter Tryd.func9, Tryd.ntmps9
  go_wp2_with fail
  refine C.out.mono ?_
  rintro e w1 ⟨rfl, m, hw⟩
  subst hw
  have B1 : Hid (Below w.heap.size w _) := below_dN B0.out m
  go_wp2
  go_ret
  exact ⟨rfl, B1.out⟩
end Go.Proofs.YtmmbkfagchaocaaDoor.qa

namespace Go.Proofs.YtmmbkfagchaocaaDoor.qb
open Go.RowKit Go.PlainAid
open Go.Proofs.YtmmbkfagchaocaaDoor.pl Go.Proofs.YtmmbkfagchaocaaDoor.pi Go.Proofs.YtmmbkfagchaocaaDoor.pj Go.Proofs.YtmmbkfagchaocaaDoor.rf Go.Proofs.YtmmbkfagchaocaaDoor.ca Go.Proofs.YtmmbkfagchaocaaDoor.cb Go.Proofs.YtmmbkfagchaocaaDoor.cp Go.Proofs.YtmmbkfagchaocaaDoor.cs Go.Proofs.YtmmbkfagchaocaaDoor.ka Go.Proofs.YtmmbkfagchaocaaDoor.kb Go.Proofs.YtmmbkfagchaocaaDoor.kc Go.Proofs.YtmmbkfagchaocaaDoor.ga Go.Proofs.YtmmbkfagchaocaaDoor.gb Go.Proofs.YtmmbkfagchaocaaDoor.na Go.Proofs.YtmmbkfagchaocaaDoor.nb Go.Proofs.YtmmbkfagchaocaaDoor.nc Go.Proofs.YtmmbkfagchaocaaDoor.oa Go.Proofs.YtmmbkfagchaocaaDoor.ob Go.Proofs.YtmmbkfagchaocaaDoor.qa
set_option linter.unusedVariables false

-- what program and law ask of the world, and what they leave as it was
structure Gd (T : World → Prop) (w w' : World) : Prop where
  later : ∀ {w w' : World}, T w → Below w.heap.size w w' → T w'
  t : T w'
  b : Below w.heap.size w w'
theorem Gd.on {T : World → Prop} {w w' w'' : World} (h : Gd T w w') (hb : Below w'.heap.size w' w'') : Gd T w w'' := ⟨h.later, h.later h.t hb, over h.b hb⟩
end Go.Proofs.YtmmbkfagchaocaaDoor.qb

namespace Go.Proofs.YtmmbkfagchaocaaDoor.qc
open Go.RowKit Go.PlainAid
open Go.Proofs.YtmmbkfagchaocaaDoor.pl Go.Proofs.YtmmbkfagchaocaaDoor.pi Go.Proofs.YtmmbkfagchaocaaDoor.pj Go.Proofs.YtmmbkfagchaocaaDoor.rf Go.Proofs.YtmmbkfagchaocaaDoor.ca Go.Proofs.YtmmbkfagchaocaaDoor.cb Go.Proofs.YtmmbkfagchaocaaDoor.cp Go.Proofs.YtmmbkfagchaocaaDoor.cs Go.Proofs.YtmmbkfagchaocaaDoor.ka Go.Proofs.YtmmbkfagchaocaaDoor.kb Go.Proofs.YtmmbkfagchaocaaDoor.kc Go.Proofs.YtmmbkfagchaocaaDoor.ga Go.Proofs.YtmmbkfagchaocaaDoor.gb Go.Proofs.YtmmbkfagchaocaaDoor.na Go.Proofs.YtmmbkfagchaocaaDoor.nb Go.Proofs.YtmmbkfagchaocaaDoor.nc Go.Proofs.YtmmbkfagchaocaaDoor.oa Go.Proofs.YtmmbkfagchaocaaDoor.ob Go.Proofs.YtmmbkfagchaocaaDoor.qa Go.Proofs.YtmmbkfagchaocaaDoor.qb Go.Proofs.YtmmbkfagchaocaaDoor.xc
set_option linter.unusedVariables false

-- a frontier's block, whole
def Fx (w : World) (b : Nat) (lo hi : Int) (u : Value) : Prop := w.heap[b]? = some (.cells #[.int .i64 lo, .int .i64 hi, u] 24 (0, 0))
theorem Fx.lt {w : World} {b : Nat} {lo hi : Int} {u : Value} (h : Fx w b lo hi u) : b < w.heap.size := (Array.getElem?_eq_some_iff.1 h).1
theorem Fx.on {w w' : World} {b : Nat} {lo hi : Int} {u : Value} (h : Fx w b lo hi u) (hb : Below w.heap.size w w') : Fx w' b lo hi u := (hb.block _ h.lt).trans h
theorem Fx.fb {w : World} {b : Nat} {lo hi : Int} {u : Value} (h : Fx w b lo hi u) : Fb w b lo hi u :=
  ⟨by rw [cell_of_row _ _ _ _ _ _ h]; rfl, by rw [cell_of_row _ _ _ _ _ _ h]; rfl, by rw [cell_of_row _ _ _ _ _ _ h]; rfl⟩
theorem fx_new (w : World) (lo hi : Int) (u : Value) : Fx (w.alloc (.cells #[.int .i64 lo, .int .i64 hi, u] 24)) w.heap.size lo hi u := heap_alloc_new _ _
-- three cells written over
abbrev set3 (w : World) (b : Nat) (x y z : Value) : World := ((w.setCell ⟨b, 0, none⟩ x).setCell ⟨b, 1, none⟩ y).setCell ⟨b, 2, none⟩ z
theorem fx_set {w : World} {b : Nat} {lo hi : Int} {u : Value} (h : Fx w b lo hi u) (lo' hi' : Int) (u' : Value) : Fx (set3 w b (.int .i64 lo') (.int .i64 hi') u') b lo' hi' u' := by
  have h1 := heap_setCell_same _ _ 0 _ _ (.int .i64 lo') h
  have h2 := heap_setCell_same _ _ 1 _ _ (.int .i64 hi') h1
  exact heap_setCell_same _ _ 2 _ _ u' h2
theorem set3_other (w : World) (b k : Nat) (x y z : Value) (h : k ≠ b) : (set3 w b x y z).heap[k]? = w.heap[k]? := by
  unfold set3
  rw [Below.heap_setCell _ _ _ _ h, Below.heap_setCell _ _ _ _ h, Below.heap_setCell _ _ _ _ h]
theorem below_set3 {B : Nat} {w w' : World} {b : Nat} (h : Below B w w') (hb : B ≤ b) (x y z : Value) : Below B w (set3 w' b x y z) :=
  ((h.setCell (p := ⟨b, 0, none⟩) hb _).setCell (p := ⟨b, 1, none⟩) hb _).setCell (p := ⟨b, 2, none⟩) hb _
theorem own_set3 {w : World} {B e size n b : Nat} {v : Value} {xs : List Value} {lo hi : Int} {u : Value} (h : w.ownsRow B e size v n xs) (hf : Fx w b lo hi u) (hne : e ≠ 24) (x y z : Value) : (set3 w b x y z).ownsRow B e size v n xs := by
  refine ⟨h.1, ?_⟩
  rcases h.2 with hn | ⟨g, cap, cur, rfl, hg, hgg, rest⟩
  · exact .inl hn
  · refine .inr ⟨g, cap, cur, rfl, hg, ?_, rest⟩
    rw [set3_other w b g x y z ?_]
    · exact hgg
    · rintro rfl
      unfold Fx at hf
      rw [hgg] at hf
      simp only [Option.some.injEq, Obj.cells.injEq] at hf
      exact hne hf.2.1
theorem fx_set_other {w : World} {b k : Nat} {lo hi : Int} {u : Value} (h : Fx w k lo hi u) (hne : k ≠ b) (x y z : Value) : Fx (set3 w b x y z) k lo hi u := (set3_other w b k x y z hne).trans h
end Go.Proofs.YtmmbkfagchaocaaDoor.qc

namespace Go.Proofs.YtmmbkfagchaocaaDoor.qd
open Go.RowKit Go.PlainAid
open Go.Proofs.YtmmbkfagchaocaaDoor.pl Go.Proofs.YtmmbkfagchaocaaDoor.pi Go.Proofs.YtmmbkfagchaocaaDoor.pj Go.Proofs.YtmmbkfagchaocaaDoor.rf Go.Proofs.YtmmbkfagchaocaaDoor.ca Go.Proofs.YtmmbkfagchaocaaDoor.cb Go.Proofs.YtmmbkfagchaocaaDoor.cp Go.Proofs.YtmmbkfagchaocaaDoor.cs Go.Proofs.YtmmbkfagchaocaaDoor.ka Go.Proofs.YtmmbkfagchaocaaDoor.kb Go.Proofs.YtmmbkfagchaocaaDoor.kc Go.Proofs.YtmmbkfagchaocaaDoor.ga Go.Proofs.YtmmbkfagchaocaaDoor.gb Go.Proofs.YtmmbkfagchaocaaDoor.na Go.Proofs.YtmmbkfagchaocaaDoor.nb Go.Proofs.YtmmbkfagchaocaaDoor.nc Go.Proofs.YtmmbkfagchaocaaDoor.oa Go.Proofs.YtmmbkfagchaocaaDoor.ob Go.Proofs.YtmmbkfagchaocaaDoor.qa Go.Proofs.YtmmbkfagchaocaaDoor.qb Go.Proofs.YtmmbkfagchaocaaDoor.qc
set_option linter.unusedVariables false

-- a later world, blocks that are there as they were
def Hb (w w' : World) : Prop := Below w.heap.size w w'
theorem Hb.drew (w : World) : Hb w w.drew := below_dN (Below.refl _ _) 1
theorem Hb.alloc {w w' : World} (h : Hb w w') (o : Obj) : Hb w (w'.alloc o) := Below.alloc h h.size _
theorem Hb.on {w w' w'' : World} (h : Hb w w') (hb : Below w'.heap.size w' w'') : Hb w w'' := over h hb
theorem Hb.set {w w' : World} (h : Hb w w') {b : Nat} (hb : w.heap.size ≤ b) (x y z : Value) : Hb w (set3 w' b x y z) := below_set3 h hb x y z
theorem Hb.cell {w w' : World} (h : Hb w w') {p : Addr} {v : Value} (hc : w.cell? p = some v) : w'.cell? p = some v := (Below.cell h (World.block_lt_of_cell? _ _ hc)).trans hc
-- the answer of Push, with its frontier in a block of its own
def Gx (w : World) (lo hi : Int) (hs : List ByteArray) (ns : List Md) (g : Nat) (u' m' : Value) (wx : World) : Prop := Hb w wx ∧ w.heap.size ≤ g ∧ Fx wx g lo hi u' ∧ Texts wx w.heap.size u' hs ∧ Mades wx w.heap.size m' ns
theorem gx_alloc {w w' : World} {lo hi : Int} {hs : List ByteArray} {ns : List Md} {B : Nat} {u' m' : Value} (h : Hb w w') (hB : w.heap.size ≤ B) (tx : Texts w' B u' hs) (mx : Mades w' B m' ns) : Gx w lo hi hs ns w'.heap.size u' m' (w'.alloc (.cells #[.int .i64 lo, .int .i64 hi, u'] 24)) :=
  ⟨h.alloc _, h.size, fx_new w' _ _ _, (tx.down hB).later ((Below.refl _ _).alloc (Nat.le_refl _) _), (mx.down hB).later ((Below.refl _ _).alloc (Nat.le_refl _) _)⟩
theorem gx_set {w w' : World} {lo hi : Int} {hs : List ByteArray} {ns : List Md} {B : Nat} {u' m' : Value} (h : Hb w w') (hB : w.heap.size ≤ B) (hz : Fx w' w.heap.size 0 0 (.slice none 0 0)) (tx : Texts w' B u' hs) (mx : Mades w' B m' ns) : Gx w lo hi hs ns w.heap.size u' m' (set3 w' w.heap.size (.int .i64 lo) (.int .i64 hi) u') :=
  ⟨h.set (Nat.le_refl _) _ _ _, Nat.le_refl _, fx_set hz _ _ _, own_set3 (tx.down hB) hz (by decide) _ _ _, own_set3 (mx.down hB) hz (by decide) _ _ _⟩
theorem fx_grown {w w' : World} {b B n : Nat} {lo hi : Int} {u v : Value} {xs : List Value} (h : Fx w b lo hi u) (ho : w.ownsRow B 38 3 v n xs) (hg : w.grownBy w' v.ownBlock) : Fx w' b lo hi u := by
  refine (hg.block b h.lt ?_).trans h
  intro he
  rcases ho.2 with ⟨rfl, _⟩ | ⟨g', cap', cur', rfl, _, hgg', _⟩
  · cases he
  · have e1 : b = g' := Option.some.inj he
    subst e1
    unfold Fx at h
    rw [h] at hgg'
    simp only [Option.some.injEq, Obj.cells.injEq] at hgg'
    exact absurd hgg'.2.1 (by decide)
theorem own_other {w w' : World} {B B' e e' size size' n n' : Nat} {v v' : Value} {xs xs' : List Value} (h : w.ownsRow B e size v n xs) (h' : w.ownsRow B' e' size' v' n' xs') (hne : e ≠ e') (hg : w.grownBy w' v'.ownBlock) : w'.ownsRow B e size v n xs := by
  refine ⟨h.1, ?_⟩
  rcases h.2 with hn | ⟨g, cap, cur, rfl, hb, hgg, rest⟩
  · exact .inl hn
  · refine .inr ⟨g, cap, cur, rfl, hb, ?_, rest⟩
    rw [hg.block g (Array.getElem?_eq_some_iff.1 hgg).1 ?_]
    · exact hgg
    · intro he
      rcases h'.2 with ⟨rfl, _⟩ | ⟨g', cap', cur', rfl, _, hgg', _⟩
      · cases he
      · have e1 : g = g' := Option.some.inj he
        subst e1
        rw [hgg] at hgg'
        simp only [Option.some.injEq, Obj.cells.injEq] at hgg'
        exact hne hgg'.2.1
end Go.Proofs.YtmmbkfagchaocaaDoor.qd
