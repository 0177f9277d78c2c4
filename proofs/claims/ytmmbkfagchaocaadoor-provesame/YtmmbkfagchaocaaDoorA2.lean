import Derived.Test.YtmmbkfagchaocaaDoorB1
import Derived.Deep.MidRow
import Derived.Test.YtmmbkfagchaocaaDoorA1
import Derived.Shelf.Strings.OnBuilder
import Derived.Test.YtmmbkfagchaocaaDoorProg
import Derived.Room.Shelf.Join48
namespace Go.Proofs.YtmmbkfagchaocaaDoor.ka
open Go.RowKit Go.PlainAid
open Go.Proofs.YtmmbkfagchaocaaDoor.ca Go.Proofs.YtmmbkfagchaocaaDoor.cp
set_option linter.unusedVariables false

-- a list of texts, wherever it lies
def ReadsT (w : World) (v : Value) (xs : List ByteArray) : Prop :=
  ∃ a cap, v = .slice a xs.length cap ∧ xs.length ≤ cap ∧ (xs.length = 0 ∨ ∃ b off, a = some ⟨b, off, none⟩ ∧ ∀ i, i < xs.length → w.cell? ⟨b, off + i, none⟩ = some (.string (xs.getD i ByteArray.empty)))
theorem ReadsT.later {w w' : World} {v : Value} {xs : List ByteArray} (h : ReadsT w v xs) (hb : Below w.heap.size w w') : ReadsT w' v xs := by
  obtain ⟨a, cap, rfl, hc, h0 | ⟨b, off, rfl, hh⟩⟩ := h
  · exact ⟨a, cap, rfl, hc, .inl h0⟩
  · refine ⟨_, cap, rfl, hc, .inr ⟨b, off, rfl, fun i hi => ?_⟩⟩
    have := hh i hi
    exact (hb.cell (p := ⟨b, off + i, none⟩) (World.block_lt_of_cell? _ _ this)).trans this
theorem ReadsT.front {w : World} {b off n cap k : Nat} {xs : List ByteArray} (h : ReadsT w (.slice (some ⟨b, off, none⟩) n cap) xs) (hk : k ≤ xs.length) : ReadsT w (.slice (some ⟨b, off, none⟩) k cap) (xs.take k) := by
  obtain ⟨a, cap', e, hc, hh⟩ := h
  injection e with e1 e2 e3
  subst e1 e3
  have hl : (xs.take k).length = k := by rw [List.length_take]; omega
  refine ⟨_, cap, by rw [hl], by omega, ?_⟩
  rcases hh with h0 | ⟨b', off', e4, hh⟩
  · left; omega
  · injection e4 with e4
    injection e4 with e5 e6
    subst e5 e6
    refine .inr ⟨b, off, rfl, fun i hi => ?_⟩
    rw [hl] at hi
    rw [hh i (by omega), List.getD_eq_getElem?_getD, List.getD_eq_getElem?_getD, List.getElem?_take, if_pos hi]
theorem ReadsT.back {w : World} {b off n cap k : Nat} {xs : List ByteArray} (h : ReadsT w (.slice (some ⟨b, off, none⟩) n cap) xs) (hk : k ≤ xs.length) : ReadsT w (.slice (some ⟨b, off + k, none⟩) (n - k) (cap - k)) (xs.drop k) := by
  obtain ⟨a, cap', e, hc, hh⟩ := h
  injection e with e1 e2 e3
  subst e1 e2 e3
  have hl : (xs.drop k).length = xs.length - k := List.length_drop
  refine ⟨_, cap - k, by rw [hl], by omega, ?_⟩
  rcases hh with h0 | ⟨b', off', e4, hh⟩
  · left; omega
  · injection e4 with e4
    injection e4 with e5 e6
    subst e5 e6
    refine .inr ⟨b, off + k, rfl, fun i hi => ?_⟩
    rw [hl] at hi
    rw [Nat.add_assoc, hh (k + i) (by omega), List.getD_eq_getElem?_getD, List.getD_eq_getElem?_getD, List.getElem?_drop]
theorem ReadsT.mid {w : World} {b off n cap f k : Nat} {xs : List ByteArray} (h : ReadsT w (.slice (some ⟨b, off, none⟩) n cap) xs) (hk : f + k ≤ xs.length) : ReadsT w (.slice (some ⟨b, off + f, none⟩) k (cap - f)) ((xs.drop f).take k) := by
  have h1 := h.back (k := f) (by omega)
  exact ReadsT.front (n := n - f) h1 (by rw [List.length_drop]; omega)
theorem own_readsT {w : World} {B n : Nat} {v : Value} {xs : List ByteArray} (h : w.ownsRow B 9 1 v n (xs.map Value.string)) : ReadsT w v xs := by
  have hn : xs.length = n := by have := h.1; simpa using this
  subst hn
  rcases h.2 with ⟨rfl, h0⟩ | ⟨g, cap, cur, rfl, _, hg, hc, _⟩
  · exact ⟨none, 0, by rw [h0], by omega, .inl h0⟩
  · refine ⟨_, cap, rfl, hc, .inr ⟨g, 0, rfl, fun i hi => ?_⟩⟩
    rw [Nat.zero_add, h.cellAt i (by omega), List.getElem?_map, List.getElem?_eq_getElem hi, List.getD_eq_getElem?_getD, List.getElem?_eq_getElem hi]
    rfl
theorem hi9 : (Tryd.prog.info? 9).map (fun i => (i.zero, i.size, i.bytes)) = some (some (.string ByteArray.empty), 1, 16) := by kernel_rfl
theorem info_parts {t : TypeId} {z : Value} {n b : Nat} (h : (Tryd.prog.info? t).map (fun i => (i.zero, i.size, i.bytes)) = some (some z, n, b)) : ∃ i, Tryd.prog.info? t = some i ∧ i.zero = some z ∧ i.size = n ∧ i.bytes = b := by
  obtain ⟨i, hi, he⟩ := Option.map_eq_some_iff.1 h
  injection he with e1 e2
  injection e2 with e2 e3
  exact ⟨i, hi, e1, e2, e3⟩
theorem own_formS {w : World} {B e size n : Nat} {v : Value} {xs : List Value} (h : w.ownsRow B e size v n xs) : ∃ a c, v = .slice a n c := by
  rcases h.2 with ⟨rfl, rfl⟩ | ⟨g, cap, cur, rfl, _⟩
  · exact ⟨_, _, rfl⟩
  · exact ⟨_, _, rfl⟩
theorem new_text (W : World) (u : Value) (t : TypeId) : ∀ (j : Nat) (x : Value), [u][j]? = some x → (W.alloc (.cells #[u] t)).cell? (Addr.add ⟨W.heap.size, 0, none⟩ j) = some x := by
  intro j x hx
  rw [show (Addr.add ⟨W.heap.size, 0, none⟩ j) = ⟨W.heap.size, j, none⟩ by cases j <;> simp [Addr.add], World.cell?_alloc_at _ _ _ _ rfl]
  simpa using hx
theorem one_text (x : ByteArray) : ∀ u ∈ [Value.string x], u.oneCell' = true := by
  intro u hu
  simp only [List.mem_cons, List.not_mem_nil, or_false] at hu
  subst hu
  rfl
theorem own_first {w : World} {B g n cap : Nat} {ys : List ByteArray} {z : Value} (h : w.ownsRow B 9 1 (.slice (some ⟨g, 0, none⟩) (n + 1) cap) (n + 1) (ys.map Value.string ++ [z])) (hn : ys.length = n) : ReadsT w (.slice (some ⟨g, 0, none⟩) n cap) ys := by
  have hc : n + 1 ≤ cap := by
    rcases h.2 with ⟨e, _⟩ | ⟨g', cap', cur, e, _, _, hc, _⟩
    · cases e
    · injection e with _ _ e3; omega
  refine ⟨_, cap, by rw [hn], by omega, .inr ⟨g, 0, rfl, fun i hi => ?_⟩⟩
  rw [Nat.zero_add, h.cellAt i (by omega), List.getElem?_append_left (by rw [List.length_map]; exact hi), List.getElem?_map, List.getElem?_eq_getElem hi, List.getD_eq_getElem?_getD, List.getElem?_eq_getElem hi]
  rfl
theorem own_behind {w : World} {B g n cap : Nat} {ys : List ByteArray} {z : Value} (h : w.ownsRow B 9 1 (.slice (some ⟨g, 0, none⟩) (n + 1) cap) (n + 1) (ys.map Value.string ++ [z])) (hn : ys.length = n) : w.cell? ⟨g, n, none⟩ = some z := by
  rw [h.cellAt n (by omega), List.getElem?_append_right (by rw [List.length_map]; omega), List.length_map, hn, Nat.sub_self]
  rfl
theorem reads_news {w : World} {ad : Addr} {n cap : Nat} {xs : List ByteArray} (h : ReadsT w (.slice (some ad) n cap) xs) : ∀ (j : Nat) (u : Value), (xs.map Value.string)[j]? = some u → w.cell? (ad.add j) = some u := by
  intro j u hu
  have hj : j < xs.length := by have := (List.getElem?_eq_some_iff.1 hu).1; simpa using this
  obtain ⟨a', cap', e, _, h0 | ⟨b, off, e4, hc⟩⟩ := h
  · omega
  · injection e with e1 e2 e3
    rw [← e1] at e4
    obtain rfl := Option.some.inj e4
    rw [Addr.add_mid, hc j hj, ← hu, List.getElem?_map, List.getElem?_eq_getElem hj, List.getD_eq_getElem?_getD, List.getElem?_eq_getElem hj]
    rfl
end Go.Proofs.YtmmbkfagchaocaaDoor.ka

namespace Go.Proofs.YtmmbkfagchaocaaDoor.kb
open Go.RowKit Go.PlainAid
open Go.Proofs.YtmmbkfagchaocaaDoor.pl Go.Proofs.YtmmbkfagchaocaaDoor.pi Go.Proofs.YtmmbkfagchaocaaDoor.pj Go.Proofs.YtmmbkfagchaocaaDoor.rf Go.Proofs.YtmmbkfagchaocaaDoor.ca Go.Proofs.YtmmbkfagchaocaaDoor.cp Go.Proofs.YtmmbkfagchaocaaDoor.ka
set_option linter.unusedVariables false

theorem cut_of (x s : ByteArray) (m : Int) (w : World) (hx : x.size = 32) (hsum : Calls Tryd.prog 105 #[.string s] w fun e w' => e = .returned (.string x) ∧ Below w.heap.size w w') :
    Calls Tryd.prog 99 #[.string s, .int .i64 m] w fun e w' => e = .returned (.string (x.extract 0 (wid m))) ∧ Below w.heap.size w w' := by
  have HSUM : Hid (Calls _ _ _ _ _) := hsum
  clear hsum
  by_cases h1 : m < 1
  · have d1 : decide (m < 1) = true := decide_eq_true h1
    rw [show wid m = 32 by unfold wid; rw [if_pos (.inl h1)]]
    clear h1
    go_enter Tryd.func99, Tryd.ntmps99
    go_wp2_with fail
    refine HSUM.out.mono ?_
    rintro e w1 ⟨rfl, hb1⟩
    have HB1 : Hid (Below _ _ _) := hb1
    clear hb1
    go_wp2
    go_ret
    exact ⟨rfl, HB1.out⟩
  · have d1 : decide (m < 1) = false := decide_eq_false h1
    by_cases h2 : 32 < m
    · have d2 : decide (32 < m) = true := decide_eq_true h2
      rw [show wid m = 32 by unfold wid; rw [if_pos (.inr h2)]]
      clear h1 h2
      go_enter Tryd.func99, Tryd.ntmps99
      go_wp2_with fail
      refine HSUM.out.mono ?_
      rintro e w1 ⟨rfl, hb1⟩
      have HB1 : Hid (Below _ _ _) := hb1
      clear hb1
      go_wp2
      go_ret
      exact ⟨rfl, HB1.out⟩
    · have d2 : decide (32 < m) = false := decide_eq_false h2
      obtain ⟨k, rfl⟩ := Int.eq_ofNat_of_zero_le (show 0 ≤ m by omega)
      have hky : k ≤ 32 := by omega
      have hkz : (k : Int) ≤ 32 := by omega
      rw [show wid (k : Int) = k by unfold wid; rw [if_neg (fun h => h.elim h1 h2)]; omega]
      clear h1 h2
      go_enter Tryd.func99, Tryd.ntmps99
      go_wp2_with fail
      refine HSUM.out.mono ?_
      rintro e w1 ⟨rfl, hb1⟩
      have HB1 : Hid (Below _ _ _) := hb1
      clear hb1
      go_wp2
      go_ret
      exact ⟨rfl, HB1.out⟩
theorem width (m : Int) (w : World) : Calls Tryd.prog 82 #[.int .i64 m] w fun e w' => e = .returned (.int .i64 (wid m)) ∧ w' = w := by
  by_cases h1 : m < 1
  · have d1 : decide (m < 1) = true := decide_eq_true h1
    rw [show wid m = 32 by unfold wid; rw [if_pos (.inl h1)]]
    clear h1
    go_enter Tryd.func82, Tryd.ntmps82
    go_wp2
    go_ret
    exact ⟨rfl, rfl⟩
  · have d1 : decide (m < 1) = false := decide_eq_false h1
    by_cases h2 : 32 < m
    · have d2 : decide (32 < m) = true := decide_eq_true h2
      rw [show wid m = 32 by unfold wid; rw [if_pos (.inr h2)]]
      clear h1 h2
      go_enter Tryd.func82, Tryd.ntmps82
      go_wp2
      go_ret
      exact ⟨rfl, rfl⟩
    · have d2 : decide (32 < m) = false := decide_eq_false h2
      obtain ⟨k, rfl⟩ := Int.eq_ofNat_of_zero_le (show 0 ≤ m by omega)
      rw [show wid (k : Int) = k by unfold wid; rw [if_neg (fun h => h.elim h1 h2)]; omega]
      clear h1 h2
      go_enter Tryd.func82, Tryd.ntmps82
      go_wp2
      go_ret
      exact ⟨rfl, rfl⟩
theorem rcut_of (x s : ByteArray) (m : Int) (w : World) (hx : x.size = 32) (hsum : Calls Tryd.prog 81 #[.string s] w fun e w' => e = .returned (.string x) ∧ Below w.heap.size w w') :
    Calls Tryd.prog 68 #[.string s, .int .i64 m] w fun e w' => e = .returned (.string (x.extract 0 (wid m))) ∧ Below w.heap.size w w' := by
  have HSUM : Hid (Calls _ _ _ _ _) := hsum
  have hw := wid_le m
  have W : Hid (∀ w', Calls _ _ _ _ _) := width m
  clear hsum
  generalize wid m = k at *
  have hk : (k : Int) ≤ 32 := by omega
  go_enter Tryd.func68, Tryd.ntmps68
  go_wp2_with fail
  refine HSUM.out.mono ?_
  rintro e w1 ⟨rfl, hb1⟩
  have HB1 : Hid (Below _ _ _) := hb1
  clear hb1
  go_wp2_with fail
  refine (W.out _).mono ?_
  rintro e w2 ⟨rfl, rfl⟩
  go_wp2
  go_ret
  exact ⟨rfl, HB1.out⟩
theorem rCut (s : ByteArray) (m : Int) (w : World) (hs : s.size ≤ 140737488352256) (T : Tab4 w) :
    Calls Tryd.prog 68 #[.string s, .int .i64 m] w fun e w' => e = .returned (.string ((sha s).extract 0 (wid m))) ∧ Below w.heap.size w w' :=
  rcut_of (sha s) s m w (sha_size s) (RSum s w hs T)
def cutS (s : ByteArray) (m : Int) : ByteArray := (sha s).extract 0 (wid m)
def EF (m : Int) : ByteArray := cutS ByteArray.empty m
def LF (m : Int) (d : ByteArray) : ByteArray := cutS ((⟨#[0]⟩ : ByteArray) ++ d) m
def NF (m : Int) (l r : ByteArray) : ByteArray := cutS ((⟨#[1]⟩ : ByteArray) ++ l ++ r) m
theorem cutS_size (s : ByteArray) (m : Int) : (cutS s m).size = wid m := by
  unfold cutS
  rw [ByteArray.size_extract, sha_size]
  have := wid_le m
  omega
theorem sz0 : (⟨#[0]⟩ : ByteArray).size = 1 := rfl
theorem sz1 : (⟨#[1]⟩ : ByteArray).size = 1 := rfl
theorem rNode (m : Int) (l r : ByteArray) (hd : l.size + r.size ≤ 140737488351232) (w : World) (T : Tab4 w) : Calls Tryd.prog 54 #[.int .i64 m, .string l, .string r] w fun e w' => e = .returned (.string (NF m l r)) ∧ Below w.heap.size w w' := by
  have hz : ((⟨#[1]⟩ : ByteArray) ++ l).size = 1 + l.size := by rw [ByteArray.size_append, sz1]
  have C : Hid (Calls _ _ _ _ _) := rCut ((⟨#[1]⟩ : ByteArray) ++ l ++ r) m w (by rw [ByteArray.size_append, hz]; omega) T
  have HE : Hid ((sha ((⟨#[1]⟩ : ByteArray) ++ l ++ r)).extract 0 (wid m) = NF m l r) := rfl
  rw [HE.out] at C
  have h0 := sz1
  clear T HE
  go_enter Tryd.func54, Tryd.ntmps54
  go_wp2_with fail
  refine C.out.mono ?_
  rintro e w1 ⟨rfl, hb⟩
  have B1 : Hid (Below w.heap.size w w1) := hb
  clear hb
  go_wp2
  go_ret
  exact ⟨rfl, B1.out⟩
end Go.Proofs.YtmmbkfagchaocaaDoor.kb

namespace Go.Proofs.YtmmbkfagchaocaaDoor.gb
open Go.RowKit Go.PlainAid
open Go.Proofs.YtmmbkfagchaocaaDoor.pl Go.Proofs.YtmmbkfagchaocaaDoor.pi Go.Proofs.YtmmbkfagchaocaaDoor.pj Go.Proofs.YtmmbkfagchaocaaDoor.ca Go.Proofs.YtmmbkfagchaocaaDoor.cb Go.Proofs.YtmmbkfagchaocaaDoor.cp Go.Proofs.YtmmbkfagchaocaaDoor.ka Go.Proofs.YtmmbkfagchaocaaDoor.kb Go.Proofs.YtmmbkfagchaocaaDoor.rf Go.Proofs.YtmmbkfagchaocaaDoor.ga
set_option linter.unusedVariables false

-- the root of leaves; the proofs
def RT (wd : Int) (xs : List ByteArray) : ByteArray := rootP (EF wd) (NF wd) (xs.map (LF wd))
theorem RT_nil (wd : Int) : RT wd [] = EF wd := rootP_nil _ _
theorem RT_one (wd : Int) (x : ByteArray) : RT wd [x] = LF wd x := rootP_one _ _ _
theorem RT_half (wd : Int) {xs : List ByteArray} (h : 2 ≤ xs.length) : RT wd xs = NF wd (RT wd (xs.take (half xs.length))) (RT wd (xs.drop (half xs.length))) := by
  unfold RT
  rw [rootP_half _ _ (l := xs.map (LF wd)) (by rw [List.length_map]; exact h), List.length_map, ← List.map_take, ← List.map_drop]
theorem RT_size (wd : Int) (xs : List ByteArray) : (RT wd xs).size = wid wd := by
  rcases Nat.lt_or_ge xs.length 2 with e | e
  · match xs, e with
    | [], _ => rw [RT_nil]; exact cutS_size _ _
    | [x], _ => rw [RT_one]; exact cutS_size _ _
  · rw [RT_half wd e]; exact cutS_size _ _
theorem RT_le (wd : Int) (xs : List ByteArray) : (RT wd xs).size ≤ 32 := by rw [RT_size]; exact wid_le wd
theorem RT_pos (wd : Int) (xs : List ByteArray) : 1 ≤ (RT wd xs).size := by rw [RT_size]; unfold wid; split <;> omega
def PTn (wd : Int) (i : Nat) (xs : List ByteArray) : List ByteArray := pathP (EF wd) (NF wd) i (xs.map (LF wd))
theorem PTn_one (wd : Int) (i : Nat) {xs : List ByteArray} (h : ¬ 2 ≤ xs.length) : PTn wd i xs = [] := pathP_one _ _ (by rw [List.length_map]; exact h)
theorem PTn_low (wd : Int) {i : Nat} {xs : List ByteArray} (h : 2 ≤ xs.length) (hi : i < half xs.length) : PTn wd i xs = PTn wd i (xs.take (half xs.length)) ++ [RT wd (xs.drop (half xs.length))] := by
  unfold PTn RT
  rw [pathP_low _ _ (l := xs.map (LF wd)) (by rw [List.length_map]; exact h) (by rw [List.length_map]; exact hi), List.length_map, ← List.map_take, ← List.map_drop]
theorem PTn_high (wd : Int) {i : Nat} {xs : List ByteArray} (h : 2 ≤ xs.length) (hi : ¬ i < half xs.length) : PTn wd i xs = PTn wd (i - half xs.length) (xs.drop (half xs.length)) ++ [RT wd (xs.take (half xs.length))] := by
  unfold PTn RT
  rw [pathP_high _ _ (l := xs.map (LF wd)) (by rw [List.length_map]; exact h) (by rw [List.length_map]; exact hi), List.length_map, ← List.map_take, ← List.map_drop]
theorem PTn_len (wd : Int) (i : Nat) (xs : List ByteArray) : (PTn wd i xs).length ≤ xs.length - 1 := pathP_len _ _ _ i _ (List.length_map _)
def QTn (wd : Int) (m : Nat) (xs : List ByteArray) (b : Bool) : List ByteArray := subP (EF wd) (NF wd) m (xs.map (LF wd)) b
theorem QTn_all (wd : Int) {m : Nat} {xs : List ByteArray} (b : Bool) (h : ¬ m < xs.length) : QTn wd m xs b = if b then [] else [RT wd xs] := subP_all _ _ (by rw [List.length_map]; exact h)
theorem QTn_low (wd : Int) {m : Nat} {xs : List ByteArray} (b : Bool) (h : m < xs.length) (h2 : 2 ≤ xs.length) (hm : m ≤ half xs.length) : QTn wd m xs b = QTn wd m (xs.take (half xs.length)) b ++ [RT wd (xs.drop (half xs.length))] := by
  unfold QTn RT
  rw [subP_low _ _ (l := xs.map (LF wd)) (by rw [List.length_map]; exact h) (by rw [List.length_map]; exact h2) (by rw [List.length_map]; exact hm), List.length_map, ← List.map_take, ← List.map_drop]
theorem QTn_high (wd : Int) {m : Nat} {xs : List ByteArray} (b : Bool) (h : m < xs.length) (h2 : 2 ≤ xs.length) (hm : ¬ m ≤ half xs.length) : QTn wd m xs b = QTn wd (m - half xs.length) (xs.drop (half xs.length)) false ++ [RT wd (xs.take (half xs.length))] := by
  unfold QTn RT
  rw [subP_high _ _ (l := xs.map (LF wd)) (by rw [List.length_map]; exact h) (by rw [List.length_map]; exact h2) (by rw [List.length_map]; exact hm), List.length_map, ← List.map_take, ← List.map_drop]
theorem QTn_len (wd : Int) (m : Nat) (xs : List ByteArray) (b : Bool) (h : 1 ≤ xs.length) : (QTn wd m xs b).length ≤ xs.length := subP_len _ _ _ m _ b (List.length_map _) h
theorem RT_take (wd : Int) {xs : List ByteArray} {m : Nat} (h2 : 2 ≤ xs.length) (h : half xs.length < m) (hm : m < xs.length) : RT wd (xs.take m) = NF wd (RT wd (xs.take (half xs.length))) (RT wd ((xs.drop (half xs.length)).take (m - half xs.length))) := by
  have := root_take (EF wd) (NF wd) (l := xs.map (LF wd)) (m := m) (by rw [List.length_map]; exact h2) (by rw [List.length_map]; exact h) (by rw [List.length_map]; exact hm)
  rw [List.length_map] at this
  unfold RT
  rw [List.map_take, this, List.map_take, List.map_take, List.map_drop]
-- what the four answer
def PT (wd i : Int) (xs : List ByteArray) : List ByteArray := if 0 ≤ i ∧ i < xs.length then PTn wd i.toNat xs else []
def PE (i : Int) (xs : List ByteArray) : Int := if 0 ≤ i ∧ i < xs.length then 0 else 81
def QT (wd m : Int) (xs : List ByteArray) : List ByteArray := if 1 ≤ m ∧ m ≤ xs.length then QTn wd m.toNat xs true else []
def QE (m : Int) (xs : List ByteArray) : Int := if 0 ≤ m ∧ m ≤ xs.length then 0 else 80
theorem PT_len (wd i : Int) (xs : List ByteArray) : (PT wd i xs).length ≤ xs.length := by
  unfold PT
  split
  · have := PTn_len wd i.toNat xs; omega
  · simp
theorem QT_len (wd m : Int) (xs : List ByteArray) : (QT wd m xs).length ≤ xs.length := by
  unfold QT
  split
  · exact QTn_len wd m.toNat xs true (by omega)
  · simp
def NT (wd L I : Int) (xs : List ByteArray) : ByteArray := if okA L I ∧ (I + 1) * 2 ^ L.toNat ≤ xs.length then RT wd ((xs.drop (I * 2 ^ L.toNat).toNat).take (2 ^ L.toNat)) else ByteArray.empty
def NE (L I : Int) (xs : List ByteArray) : Int := if okA L I then (if (I + 1) * 2 ^ L.toNat ≤ xs.length then 0 else 80) else 50
-- leaves that a machine can hold
structure Fits (xs : List ByteArray) : Prop where
  each : ∀ x ∈ xs, x.size ≤ 140737488352000
  many : xs.length * 16 ≤ 140737488351232
theorem Fits.take {xs : List ByteArray} (h : Fits xs) (k : Nat) : Fits (xs.take k) := ⟨fun x hx => h.each x (List.mem_of_mem_take hx), by have := h.many; rw [List.length_take]; omega⟩
theorem Fits.drop {xs : List ByteArray} (h : Fits xs) (k : Nat) : Fits (xs.drop k) := ⟨fun x hx => h.each x (List.mem_of_mem_drop hx), by have := h.many; rw [List.length_drop]; omega⟩
-- a list of texts and an error
def Listed (w w' : World) (e : Ending) (ts : List ByteArray) (c : Int) : Prop := ∃ u, e = .returned (.tuple #[u, .int .i64 c]) ∧ w'.ownsRow w.heap.size 9 1 u ts.length (ts.map Value.string)
end Go.Proofs.YtmmbkfagchaocaaDoor.gb

namespace Go.Proofs.YtmmbkfagchaocaaDoor.sj
open Go.Shelf
set_option linter.unusedVariables false
def lays156_ren : Go.Shelf.Ren := ⟨fun | 156 => 100 | 165 => 106 | 166 => 107 | 169 => 108 | 240 => 114 | 241 => 115 | 276 => 125 | 277 => 126 | n => n, fun | 31 => 22 | 9 => 9 | 3 => 3 | 4 => 4 | 0 => 0 | 20 => 20 | 72 => 154 | 76 => 158 | 70 => 152 | 37 => 60 | 75 => 157 | 127 => 166 | 164 => 177 | 5 => 5 | 80 => 160 | n => n, fun | n => n⟩
theorem lays156 : Go.Proofs.Lays.n156 Tryd.prog lays156_ren := {
  mixed := by kernel_rfl
  f156 := Tryd.func100.trans (congrArg some (by kernel_rfl))
  f165 := Tryd.func106.trans (congrArg some (by kernel_rfl))
  f166 := Tryd.func107.trans (congrArg some (by kernel_rfl))
  f169 := Tryd.func108.trans (congrArg some (by kernel_rfl))
  f240 := Tryd.func114.trans (congrArg some (by kernel_rfl))
  f241 := Tryd.func115.trans (congrArg some (by kernel_rfl))
  f276 := Tryd.func125.trans (congrArg some (by kernel_rfl))
  f277 := Tryd.func126.trans (congrArg some (by kernel_rfl))
  t0 := Tryd.underlying0
  a0 := Tryd.isAgg0
  z0 := Tryd.sizeOf0
  v0 := Tryd.zeroValue0
  t3 := Tryd.underlying3
  a3 := Tryd.isAgg3
  z3 := Tryd.sizeOf3
  v3 := Tryd.zeroValue3
  t4 := Tryd.underlying4
  a4 := Tryd.isAgg4
  z4 := Tryd.sizeOf4
  v4 := Tryd.zeroValue4
  t9 := Tryd.underlying9
  a9 := Tryd.isAgg9
  z9 := Tryd.sizeOf9
  v9 := Tryd.zeroValue9
  t20 := Tryd.underlying20
  a20 := Tryd.isAgg20
  z20 := Tryd.sizeOf20
  v20 := Tryd.zeroValue20
  t31 := Tryd.underlying22
  a31 := Tryd.isAgg22
  z31 := Tryd.sizeOf22
  v31 := Tryd.zeroValue22
  t37 := Tryd.underlying60
  a37 := Tryd.isAgg60
  z37 := Tryd.sizeOf60
  v37 := Tryd.zeroValue60
  t70 := Tryd.underlying152
  a70 := Tryd.isAgg152
  z70 := Tryd.sizeOf152
  v70 := Tryd.zeroValue152
  t72 := Tryd.underlying154
  a72 := Tryd.isAgg154
  z72 := Tryd.sizeOf154
  v72 := Tryd.zeroValue154
  t75 := Tryd.underlying157
  a75 := Tryd.isAgg157
  z75 := Tryd.sizeOf157
  v75 := Tryd.zeroValue157
  t76 := Tryd.underlying158
  a76 := Tryd.isAgg158
  z76 := Tryd.sizeOf158
  v76 := Tryd.zeroValue158
  t127 := Tryd.underlying166
  a127 := Tryd.isAgg166
  z127 := Tryd.sizeOf166
  v127 := Tryd.zeroValue166
  t164 := Tryd.underlying177
  a164 := Tryd.isAgg177
  z164 := Tryd.sizeOf177
  v164 := Tryd.zeroValue177 }
theorem extra156 : Builder.Extra Tryd.prog lays156_ren := {
  sizeBuilder := by kernel_rfl
  liesBuilder := by kernel_rfl
  t5 := Tryd.underlying5
  a5 := Tryd.isAgg5
  z5 := Tryd.sizeOf5
  v5 := Tryd.zeroValue5
  infoByte := by kernel_rfl
  cellsByte := by kernel_rfl
  sizeByte := by kernel_rfl
  neB5 := by decide }
end Go.Proofs.YtmmbkfagchaocaaDoor.sj

namespace Go.Proofs.YtmmbkfagchaocaaDoor.kc
open Go.RowKit Go.PlainAid
open Go.Proofs.YtmmbkfagchaocaaDoor.pl Go.Proofs.YtmmbkfagchaocaaDoor.pi Go.Proofs.YtmmbkfagchaocaaDoor.pj Go.Proofs.YtmmbkfagchaocaaDoor.rf Go.Proofs.YtmmbkfagchaocaaDoor.ca Go.Proofs.YtmmbkfagchaocaaDoor.cp Go.Proofs.YtmmbkfagchaocaaDoor.ka Go.Proofs.YtmmbkfagchaocaaDoor.kb Go.Proofs.YtmmbkfagchaocaaDoor.sj
set_option linter.unusedVariables false

theorem cutT (s : ByteArray) (m : Int) (w : World) (hs : s.size ≤ 1125899906842624) (T : Tab w) :
    Calls Tryd.prog 99 #[.string s, .int .i64 m] w fun e w' => e = .returned (.string (cutS s m)) ∧ Below w.heap.size w w' :=
  cut_of (sha s) s m w (sha_size s) (Sum s w (by omega) T)
-- the parts, one behind the other
def cat (xs : List ByteArray) : ByteArray := ⟨(Lib.join (xs.map (·.data.toList)) (⟨#[]⟩ : ByteArray).data.toList).toArray⟩
theorem cat_size (xs : List ByteArray) : (Lib.join (xs.map (·.data.toList)) (⟨#[]⟩ : ByteArray).data.toList).length = (cat xs).size := by
  unfold cat
  simp [ByteArray.size]
theorem cat_two (a b : ByteArray) : cat [a, b] = a ++ b := by
  apply ByteArray.ext
  rw [ByteArray.data_append]
  simp [cat, Lib.join, List.intercalate]
theorem cat_three (a b c : ByteArray) : cat [a, b, c] = a ++ b ++ c := by
  apply ByteArray.ext
  rw [ByteArray.data_append, ByteArray.data_append]
  simp [cat, Lib.join, List.intercalate]
theorem joins (xs : List ByteArray) (n b c : Nat) (hn : xs.length = n) (w : World) (hc : ∀ (j : Nat) x, xs[j]? = some x → w.cell? ⟨b, 0 + j, none⟩ = some (.string x)) (hb : b < w.heap.size) (h3 : n ≤ 3) (hcap : n ≤ c) (hs : (cat xs).size ≤ 281474976710656) :
    Calls Tryd.prog 100 #[.slice (some ⟨b, 0, none⟩) n c, .string ⟨#[]⟩] w fun e w' => e = .returned (.string (cat xs)) ∧ Below w.heap.size w w' := by
  subst hn
  exact Any.strings_Join_48 lays156 extra156 b 0 c xs ⟨#[]⟩ w hc hb (by omega) hcap (by rw [cat_size]; omega)
theorem hash (xs : List ByteArray) (n b c : Nat) (hn : xs.length = n) (wd : Int) (w : World) (T : Tab w) (hc : ∀ (j : Nat) x, xs[j]? = some x → w.cell? ⟨b, 0 + j, none⟩ = some (.string x)) (hb : b < w.heap.size) (h3 : n ≤ 3) (hcap : n ≤ c) (hs : (cat xs).size ≤ 281474976710656) :
    Calls Tryd.prog 91 #[.int .i64 wd, .slice (some ⟨b, 0, none⟩) n c] w fun e w' => e = .returned (.string (cutS (cat xs) wd)) ∧ Below w.heap.size w w' := by
  have J : Hid (Calls _ _ _ _ _) := joins xs n b c hn w hc hb h3 hcap hs
  have C : Hid (∀ w, Tab w → Calls _ _ _ _ _) := fun w T => cutT (cat xs) wd w (by omega) T
  have HT : Hid (Tab w) := T
  obtain ⟨s, HS⟩ : ∃ s, Hid (cat xs = s) := ⟨_, rfl⟩
  rw [HS.out] at J C ⊢
  obtain ⟨r, HR⟩ : ∃ r, Hid (cutS s wd = r) := ⟨_, rfl⟩
  rw [HR.out] at C ⊢
  clear hc hs T hn hb
  go_enter Tryd.func91, Tryd.ntmps91
  go_wp2_with fail
  refine J.out.mono ?_
  rintro e w1 ⟨rfl, hb⟩
  have B1 : Hid (Below w.heap.size w w1) := hb
  have T1 : Hid (Tab w1) := HT.out.down hb
  clear hb
  go_wp2_with fail
  refine (C.out _ T1.out).mono ?_
  rintro e w2 ⟨rfl, hb⟩
  have B2 : Hid (Below w.heap.size w w2) := over B1.out hb
  clear hb
  go_wp2
  go_ret
  exact ⟨rfl, B2.out⟩
theorem hash0 (wd : Int) (w : World) (T : Tab w) :
    Calls Tryd.prog 91 #[.int .i64 wd, .slice none 0 0] w fun e w' => e = .returned (.string (EF wd)) ∧ Below w.heap.size w w' := by
  have J : Hid (Calls _ _ _ _ _) := Any.strings_Join_none lays156 extra156 none 0 ⟨#[]⟩ w
  have C : Hid (∀ w, Tab w → Calls _ _ _ _ _) := fun w T => cutT ⟨#[]⟩ wd w (by decide) T
  have HT : Hid (Tab w) := T
  have HE : Hid (cutS ⟨#[]⟩ wd = EF wd) := rfl
  rw [HE.out] at C
  obtain ⟨r, HR⟩ : ∃ r, Hid (EF wd = r) := ⟨_, rfl⟩
  rw [HR.out] at C ⊢
  clear T HE
  go_enter Tryd.func91, Tryd.ntmps91
  go_wp2_with fail
  refine J.out.mono ?_
  rintro e w1 ⟨rfl, hw⟩
  rw [hw]
  clear hw
  go_wp2_with fail
  refine (C.out _ HT.out).mono ?_
  rintro e w2 ⟨rfl, hb⟩
  have B2 : Hid (Below w.heap.size w w2) := hb
  clear hb
  go_wp2
  go_ret
  exact ⟨rfl, B2.out⟩
theorem pEmpty (wd : Int) (w : World) (T : Tab w) :
    Calls Tryd.prog 84 #[.int .i64 wd] w fun e w' => e = .returned (.string (EF wd)) ∧ Below w.heap.size w w' := by
  have C : Hid (Calls _ _ _ _ _) := hash0 wd w T
  obtain ⟨r, HR⟩ : ∃ r, Hid (EF wd = r) := ⟨_, rfl⟩
  rw [HR.out] at C ⊢
  clear T
  go_enter Tryd.func84, Tryd.ntmps84
  go_wp2_with fail
  refine C.out.mono ?_
  rintro e w1 ⟨rfl, hb⟩
  have B1 : Hid (Below w.heap.size w w1) := hb
  clear hb
  go_wp2
  go_ret
  exact ⟨rfl, B1.out⟩
theorem new_cells (w : World) (vs : Array Value) (t : TypeId) (xs : List ByteArray) (h : vs = (xs.map Value.string).toArray) : ∀ (j : Nat) x, xs[j]? = some x → (w.alloc (.cells vs t)).cell? ⟨w.heap.size, 0 + j, none⟩ = some (.string x) := by
  intro j x hx
  subst h
  rw [World.cell?_alloc_at _ _ _ _ rfl, Nat.zero_add]
  simp [hx]
theorem pNode (wd : Int) (l r : ByteArray) (hd : l.size + r.size ≤ 281474976702464) (w : World) (T : Tab w) :
    Calls Tryd.prog 80 #[.int .i64 wd, .string l, .string r] w fun e w' => e = .returned (.string (NF wd l r)) ∧ Below w.heap.size w w' := by
  have C : Hid (Calls _ _ _ _ _) := hash [⟨#[1]⟩, l, r] 3 w.heap.size 3 rfl wd (w.alloc (.cells #[.string ⟨#[1]⟩, .string l, .string r] 9)) (T.down ((Below.refl _ _).alloc (Nat.le_refl _) _)) (new_cells w _ _ _ rfl) (by simp) (by omega) (by omega) (by rw [cat_three, ByteArray.size_append, ByteArray.size_append, sz1]; omega)
  have HE : Hid (cutS (cat [⟨#[1]⟩, l, r]) wd = NF wd l r) := by show _ = _; rw [cat_three]; rfl
  rw [HE.out] at C
  have B0 : Hid (Below w.heap.size w (w.alloc (.cells #[.string ⟨#[1]⟩, .string l, .string r] 9))) := (Below.refl _ _).alloc (Nat.le_refl _) _
  obtain ⟨q, HR⟩ : ∃ q, Hid (NF wd l r = q) := ⟨_, rfl⟩
  rw [HR.out] at C ⊢
  clear T HE
  go_enter Tryd.func80, Tryd.ntmps80
  go_wp2_with fail
  refine C.out.mono ?_
  rintro e w1 ⟨rfl, hb⟩
  have B1 : Hid (Below w.heap.size w w1) := over B0.out hb
  clear hb
  go_wp2
  go_ret
  exact ⟨rfl, B1.out⟩
end Go.Proofs.YtmmbkfagchaocaaDoor.kc

namespace Go.Proofs.YtmmbkfagchaocaaDoor.fe
open Go.ChangeShapes Go.WideShapes Go.ChangeAt Go.WideMaps Go.WideElems Go.RowKit
open Go.Proofs.YtmmbkfagchaocaaDoor.pl Go.Proofs.YtmmbkfagchaocaaDoor.ft Go.Proofs.YtmmbkfagchaocaaDoor.xc

theorem gD : Tryd.prog.globalNamed "math/bits.deBruijn64tab" = some 1 := by kernel_rfl
theorem tD : (Tryd.prog.globals[1]?).map (·.type) = some 147 := by kernel_rfl
theorem c64b : Tryd.prog.cellsOf 147 = 64 := by kernel_rfl
theorem cb : Tryd.prog.cellsOf 5 = 1 := by kernel_rfl
def laid3 : List (String × DataW Unit) := [("math/bits.deBruijn64tab", Rows.laid_math_bits_deBruijn64tab), ("annals/sha.starts", Rows.laid_annals_sha_starts), ("annals/sha.rounds", Rows.laid_annals_sha_rounds)]
def dbL : List Int := Lib.deBruijn64tab.map fun z : Nat => (z : Int)
theorem dbData : (Rows.laid_math_bits_deBruijn64tab : DataW Unit) = Lib.tabData .u8 dbL := by kernel_rfl
theorem atD {W : World} {cs : Array Value} (e : cs.toList = dbL.map (Value.int .u8)) (hc : ∀ j, W.cell? ⟨1, j, none⟩ = cs[j]?) : TabB W := fun j hj => by
  have hl : Lib.deBruijn64tab.length = 64 := rfl
  rw [hc j, ← Array.getElem?_toList, e]
  unfold dbL
  simp [List.getD, List.getElem?_eq_getElem (show j < Lib.deBruijn64tab.length by omega)]
theorem of_laid3 {W : World} (h : laidMetH Tryd.prog laid3 W) : TabB W ∧ St8 W 3 ∧ K64 W 5 := by
  rw [MakeChecks.laidMetH_plain _ _ _ (by kernel_rfl)] at h
  obtain ⟨ps, ⟨g2, t2, cs2, f2, p2, q2, hg2, ht2, hv2, hd2, ⟨g1, t1, cs1, f1, p1, q1, hg1, ht1, hv1, hd1, ⟨g0, t0, cs0, f0, p0, q0, hg0, ht0, hv0, hd0, _, _⟩, _⟩, _⟩, _, _⟩ := h
  obtain rfl := Option.some.inj (gD.symm.trans hg2)
  obtain rfl := Option.some.inj (gS.symm.trans hg1)
  obtain rfl := Option.some.inj (gR.symm.trans hg0)
  obtain rfl := Option.some.inj (tD.symm.trans ht2)
  obtain rfl := Option.some.inj (tS.symm.trans ht1)
  obtain rfl := Option.some.inj (tR.symm.trans ht0)
  rw [dbData] at hd2
  rw [sData] at hd1
  rw [rData] at hd0
  have e2 := Lib.cells_of_tab Tryd.underlying147 Tryd.underlying5 cb c64b hd2
  have e1 := Lib.cells_of_tab Tryd.underlying171 Tryd.underlying141 c1 cW hd1
  have e0 := Lib.cells_of_tab Tryd.underlying149 Tryd.underlying141 c1 c64 hd0
  exact ⟨atD e2 (World.var?_cell hg2 hv2), at8 e1 (World.var?_cell hg1 hv1), at64 e0 (World.var?_cell hg0 hv0)⟩
theorem door_met3 (os : Os) (args : Array Value) : laidMetH Tryd.prog laid3 ((World.doorLaid Tryd.prog 400 os).forCall (fun _ _ => 0) ⟨#[], args, []⟩).memory :=
  laidMetH_of_parts3 (fuel := 8) (laidMet_of_run' 8 (by kernel_rfl) (by kernel_rfl)) (by kernel_rfl) (by kernel_rfl)
end Go.Proofs.YtmmbkfagchaocaaDoor.fe

namespace Go.Proofs.YtmmbkfagchaocaaDoor.tb
open Go.RowKit Go.PlainAid
open Go.Proofs.YtmmbkfagchaocaaDoor.pl Go.Proofs.YtmmbkfagchaocaaDoor.ft Go.Proofs.YtmmbkfagchaocaaDoor.pj Go.Proofs.YtmmbkfagchaocaaDoor.rf Go.Proofs.YtmmbkfagchaocaaDoor.cp Go.Proofs.YtmmbkfagchaocaaDoor.cv Go.Proofs.YtmmbkfagchaocaaDoor.xc
set_option linter.unusedVariables false

-- the tables that layer 7 asks for: sha's two and bits' one; the document's two besides
structure TB (w : World) : Prop where
  t : Tab w
  d : TabB w
theorem TB.down {w w' : World} (h : TB w) (b : Below w.heap.size w w') : TB w' := ⟨h.t.down b, h.d.later b⟩
structure TB4 (w : World) : Prop where
  t : Tab4 w
  d : TabB w
theorem TB4.down {w w' : World} (h : TB4 w) (b : Below w.heap.size w w') : TB4 w' := ⟨h.t.down b, h.d.later b⟩
theorem TB4.tb {w : World} (h : TB4 w) : TB w := ⟨h.t.t, h.d⟩
theorem TB.of {w : World} (h : TabB w ∧ St8 w 3 ∧ K64 w 5) : TB w := ⟨Tab.of ⟨h.2.1, h.2.2⟩, h.1⟩
theorem TB4.of {w : World} (h : St8 w 0 ∧ K64 w 2 ∧ TabB w ∧ St8 w 3 ∧ K64 w 5) : TB4 w := ⟨Tab4.of ⟨h.2.2.2.1, h.2.2.2.2, h.1, h.2.1⟩, h.2.2.1⟩
end Go.Proofs.YtmmbkfagchaocaaDoor.tb

namespace Go.Proofs.YtmmbkfagchaocaaDoor.ac
open Go.RowKit Go.PlainAid
open Go.Proofs.YtmmbkfagchaocaaDoor.ca Go.Proofs.YtmmbkfagchaocaaDoor.cp Go.Proofs.YtmmbkfagchaocaaDoor.cs Go.Proofs.YtmmbkfagchaocaaDoor.ka Go.Proofs.YtmmbkfagchaocaaDoor.tb
set_option linter.unusedVariables false

-- but for the blocks of A the world is as it was
structure Kp (A : Nat → Prop) (w w' : World) : Prop where
  os : w'.os = w.os
  tape : w'.tape = w.tape
  output : w'.output = w.output
  size : w.heap.size ≤ w'.heap.size
  block : ∀ k, k < w.heap.size → ¬ A k → w'.heap[k]? = w.heap[k]?
theorem Kp.refl (A : Nat → Prop) (w : World) : Kp A w w := ⟨rfl, rfl, rfl, Nat.le_refl _, fun _ _ _ => rfl⟩
theorem Kp.trans {A : Nat → Prop} {a b c : World} (x : Kp A a b) (y : Kp A b c) : Kp A a c :=
  ⟨y.os.trans x.os, y.tape.trans x.tape, y.output.trans x.output, Nat.le_trans x.size y.size, fun k hk hn => (y.block k (Nat.lt_of_lt_of_le hk x.size) hn).trans (x.block k hk hn)⟩
theorem Kp.mono {A B : Nat → Prop} {w w' : World} (x : Kp A w w') (h : ∀ k, A k → B k) : Kp B w w' := ⟨x.os, x.tape, x.output, x.size, fun k hk hn => x.block k hk (fun a => hn (h k a))⟩
theorem Kp.of_below {A : Nat → Prop} {w w' : World} (x : Below w.heap.size w w') : Kp A w w' := ⟨x.os, x.tape, x.output, x.size, fun k hk _ => x.block k hk⟩
theorem Kp.setCell {A : Nat → Prop} (w : World) (b o : Nat) (v : Value) (hb : A b) : Kp A w (w.setCell ⟨b, o, none⟩ v) :=
  ⟨rfl, rfl, rfl, by simp [World.setCell], fun k hk hn => Below.heap_setCell _ _ _ _ (fun e => hn (e ▸ hb))⟩
theorem Kp.below {A : Nat → Prop} {B : Nat} {w w' : World} (x : Kp A w w') (hA : ∀ k, A k → B ≤ k) (hB : B ≤ w.heap.size) : Below B w w' :=
  ⟨x.os, x.tape, x.output, x.size, fun k hk => x.block k (by omega) (fun a => by have := hA k a; omega)⟩
theorem Kp.cell {A : Nat → Prop} {w w' : World} (x : Kp A w w') {b o : Nat} {v : Value} (h : w.cell? ⟨b, o, none⟩ = some v) (hn : ¬ A b) : w'.cell? ⟨b, o, none⟩ = some v := by
  have hlt := World.block_lt_of_cell? _ _ h
  have := x.block b hlt hn
  rw [← h]
  unfold World.cell?
  rw [show (⟨b, o, none⟩ : Addr).block = b from rfl, this]
-- from A at w to A' at w': new blocks only are added
def Goes (A : Nat → Prop) (w : World) (A' : Nat → Prop) (w' : World) : Prop := Kp A w w' ∧ ∀ b, A' b → A b ∨ w.heap.size ≤ b
theorem Goes.refl (A : Nat → Prop) (w : World) : Goes A w A w := ⟨Kp.refl _ _, fun b h => .inl h⟩
theorem Goes.trans {A B C : Nat → Prop} {u v w : World} (x : Goes A u B v) (y : Goes B v C w) : Goes A u C w := by
  refine ⟨⟨y.1.os.trans x.1.os, y.1.tape.trans x.1.tape, y.1.output.trans x.1.output, Nat.le_trans x.1.size y.1.size, fun k hk hn => ?_⟩, fun b hb => ?_⟩
  · refine (y.1.block k (Nat.lt_of_lt_of_le hk x.1.size) fun hB => ?_).trans (x.1.block k hk hn)
    rcases x.2 k hB with h | h
    · exact hn h
    · omega
  · rcases y.2 b hb with h | h
    · exact x.2 b h
    · exact .inr (Nat.le_trans x.1.size h)
theorem Goes.of_below {A : Nat → Prop} {w w' : World} (x : Below w.heap.size w w') : Goes A w A w' := ⟨Kp.of_below x, fun b h => .inl h⟩
-- a row that lies beside A stays
theorem Goes.out {A A' : Nat → Prop} {w w' : World} (x : Goes A w A' w') {b : Nat} (hb : b < w.heap.size) (hn : ¬ A b) : ¬ A' b := fun h => (x.2 b h).elim hn (by omega)
theorem owns_keep {w w' : World} {base : Nat} {e : TypeId} {size : Nat} {v : Value} {n : Nat} {xs : List Value} (h : w.ownsRow base e size v n xs) (hk : ∀ g, v.ownBlock = some g → w'.heap[g]? = w.heap[g]?) : w'.ownsRow base e size v n xs := by
  obtain ⟨hl, h | ⟨g, cap, cur, rfl, hb, hh, r⟩⟩ := h
  · exact ⟨hl, .inl h⟩
  · exact ⟨hl, .inr ⟨g, cap, cur, rfl, hb, (hk g rfl).trans hh, r⟩⟩
theorem owns_lt {w : World} {base : Nat} {e : TypeId} {size : Nat} {v : Value} {n : Nat} {xs : List Value} (h : w.ownsRow base e size v n xs) {g : Nat} (hg : v.ownBlock = some g) : g < w.heap.size ∧ base ≤ g := by
  obtain ⟨hl, ⟨rfl, _⟩ | ⟨g', cap, cur, rfl, hb, hh, r⟩⟩ := h
  · cases hg
  · obtain rfl : g' = g := by simpa [Value.ownBlock] using hg
    exact ⟨(Array.getElem?_eq_some_iff.1 hh).1, hb⟩
-- a row of one's own beside A
def Beside (A : Nat → Prop) (v : Value) : Prop := ∀ g, v.ownBlock = some g → ¬ A g
theorem Goes.owns {A A' : Nat → Prop} {w w' : World} (x : Goes A w A' w') {base : Nat} {e : TypeId} {size : Nat} {v : Value} {n : Nat} {xs : List Value} (h : w.ownsRow base e size v n xs) (hb : Beside A v) : w'.ownsRow base e size v n xs ∧ Beside A' v :=
  ⟨owns_keep h fun g hg => x.1.block g (owns_lt h hg).1 (hb g hg), fun g hg => x.out (owns_lt h hg).1 (hb g hg)⟩
theorem Goes.cell {A A' : Nat → Prop} {w w' : World} (x : Goes A w A' w') {b o : Nat} {v : Value} (h : w.cell? ⟨b, o, none⟩ = some v) (hn : ¬ A b) : w'.cell? ⟨b, o, none⟩ = some v := x.1.cell h hn
-- a list of addresses beside A
def ReadsAB (A : Nat → Prop) (w : World) (v : Value) (L : List (Nat × Nat)) : Prop := ReadsA w v L ∧ Beside A v
theorem Goes.readsA {A A' : Nat → Prop} {w w' : World} (x : Goes A w A' w') {v : Value} {L : List (Nat × Nat)} (h : ReadsA w v L) (hb : ∀ b off n cap, v = .slice (some ⟨b, off, none⟩) n cap → ¬ A b) : ReadsA w' v L := by
  obtain ⟨a, cap, rfl, h0 | ⟨b, rfl, hc⟩⟩ := h
  · exact ⟨a, cap, rfl, .inl h0⟩
  · have hn := hb b 0 _ _ rfl
    exact ⟨_, cap, rfl, .inr ⟨b, rfl, fun i y hy => ⟨x.cell (hc i y hy).1 hn, x.cell (hc i y hy).2 hn⟩⟩⟩
-- a reader's Node: F: the blocks that it reads and writes, l: what was asked
structure Rd (g : Nat) (fb lb : Array Value) (ask : Nat → Nat × Nat → ByteArray × Int) (J : (Nat → Prop) → List (Nat × Nat) → World → Prop) (N : Nat) (D : Nat → Prop) : Prop where
  enter : ∀ args w, (callFunc g args).run Tryd.prog w = .ok (.enter g args) w
  call : ∀ F l (a : Nat × Nat) w, l.length < N → okA a.1 a.2 → J F l w → Calls Tryd.prog g (fb ++ #[.agg #[.int .i64 a.1, .int .i64 a.2]] ++ lb) w fun e w' =>
    e = .returned (.tuple #[.string (ask (l.length + 1) a).1, .int .i64 (ask (l.length + 1) a).2]) ∧ ∃ F', J F' (l ++ [a]) w' ∧ Goes F w F' w'
  keep : ∀ {F G : Nat → Prop} {l w w'}, J F l w → Kp G w w' → (∀ b, G b → ¬ F b ∧ ¬ D b) → J F l w'
  big : ∀ {F : Nat → Prop} {l w}, J F l w → ∀ b, D b → b < w.heap.size
  within : ∀ {F : Nat → Prop} {l w}, J F l w → ∀ b, F b → b < w.heap.size
  tab : ∀ {F : Nat → Prop} {l w}, J F l w → TB w
  fits : ∀ k a, -9223372036854775808 ≤ (ask k a).2 ∧ (ask k a).2 ≤ 9223372036854775807
theorem Rd.later {g : Nat} {fb lb : Array Value} {ask : Nat → Nat × Nat → ByteArray × Int} {J : (Nat → Prop) → List (Nat × Nat) → World → Prop} {N : Nat} {D : Nat → Prop} (h : Rd g fb lb ask J N D) {F : Nat → Prop} {l : List (Nat × Nat)} {w w' : World} (hJ : J F l w) (hb : Below w.heap.size w w') : J F l w' :=
  h.keep (G := fun _ => False) hJ (Kp.of_below hb) (fun _ x => x.elim)
end Go.Proofs.YtmmbkfagchaocaaDoor.ac
