import Derived.Test.YtoakkoalkpfkmaaD5
import Derived.BigQuiet
import Derived.Maps.AppendAt
import Derived.Deep.DeepCutAuto
namespace Go.Proofs.Ytoakkoalkpfkmaa.d9
open Go.RowKit Go.PlainAid
open Go.Proofs.Ytoakkoalkpfkmaa.ca Go.Proofs.Ytoakkoalkpfkmaa.cp Go.Proofs.Ytoakkoalkpfkmaa.d1 Go.Proofs.Ytoakkoalkpfkmaa.d5
set_option linter.unusedVariables false

-- a list of tiles, wherever it lies
def At4 (w : World) (b i : Nat) (x : Tl) : Prop := w.cell? ⟨b, i * 4, none⟩ = some (.int .i64 x.1) ∧ w.cell? ⟨b, i * 4 + 1, none⟩ = some (.int .i64 x.2.1) ∧ w.cell? ⟨b, i * 4 + 2, none⟩ = some (.int .i64 x.2.2.1) ∧ w.cell? ⟨b, i * 4 + 3, none⟩ = some (.int .i64 x.2.2.2)
def ReadsT4 (w : World) (v : Value) (L : List Tl) : Prop := ∃ a cap, v = .slice a L.length cap ∧ (L.length = 0 ∨ ∃ b, a = some ⟨b, 0, none⟩ ∧ ∀ (i : Nat) (x : Tl), L[i]? = some x → At4 w b i x)
theorem At4.later {w w' : World} {b i : Nat} {x : Tl} (h : At4 w b i x) (hb : Below w.heap.size w w') : At4 w' b i x :=
  ⟨(hb.cell (p := ⟨b, i * 4, none⟩) (World.block_lt_of_cell? _ _ h.1)).trans h.1, (hb.cell (p := ⟨b, i * 4 + 1, none⟩) (World.block_lt_of_cell? _ _ h.2.1)).trans h.2.1, (hb.cell (p := ⟨b, i * 4 + 2, none⟩) (World.block_lt_of_cell? _ _ h.2.2.1)).trans h.2.2.1, (hb.cell (p := ⟨b, i * 4 + 3, none⟩) (World.block_lt_of_cell? _ _ h.2.2.2)).trans h.2.2.2⟩
theorem ReadsT4.later {w w' : World} {v : Value} {L : List Tl} (h : ReadsT4 w v L) (hb : Below w.heap.size w w') : ReadsT4 w' v L := by
  obtain ⟨a, cap, rfl, h0 | ⟨b, rfl, hc⟩⟩ := h
  · exact ⟨a, cap, rfl, .inl h0⟩
  · exact ⟨_, cap, rfl, .inr ⟨b, rfl, fun i x hx => (hc i x hx).later hb⟩⟩
theorem own_reads4 {w : World} {B n : Nat} {v : Value} {L : List Tl} (h : w.ownsRow B 31 4 v n (cl4s L)) : ReadsT4 w v L := by
  have hn : L.length = n := by have := h.1; rw [cl4s_len] at this; omega
  subst hn
  rcases h.2 with ⟨rfl, h0⟩ | ⟨g, cap, cur, rfl, _, hg, _⟩
  · refine ⟨none, 0, by rw [h0], .inl h0⟩
  · refine ⟨_, cap, rfl, .inr ⟨g, rfl, fun i x hx => ?_⟩⟩
    have hi := (List.getElem?_eq_some_iff.1 hx).1
    obtain ⟨c1, c2, c3, c4⟩ := cl4s_get L i x hx
    exact ⟨(h.cellAt (i * 4) (by omega)).trans c1, (h.cellAt (i * 4 + 1) (by omega)).trans c2, (h.cellAt (i * 4 + 2) (by omega)).trans c3, (h.cellAt (i * 4 + 3) (by omega)).trans c4⟩
set_option maxHeartbeats 3200000 in
theorem same4 (va vb : Value) (L : List Tl) (w : World) (h1 : ReadsT4 w va L) (h2 : ReadsT4 w vb L) (hz : L.length ≤ 140737488355328) :
    Calls Try.prog 7 #[va, vb] w fun e w' => e = .returned (.bool true) ∧ ∃ m, w' = w.drewN m := by
  obtain ⟨a, cap, rfl, h1⟩ := h1
  obtain ⟨a', cap', rfl, h2⟩ := h2
  have HC : Hid (L.length = 0 ∨ ∃ b, a = some ⟨b, 0, none⟩ ∧ ∀ (i : Nat) (x : Tl), L[i]? = some x → At4 w b i x) := h1
  have HC' : Hid (L.length = 0 ∨ ∃ b, a' = some ⟨b, 0, none⟩ ∧ ∀ (i : Nat) (x : Tl), L[i]? = some x → At4 w b i x) := h2
  obtain ⟨n, HN⟩ : ∃ n, Hid (L.length = n) := ⟨_, rfl⟩
  rw [HN.out] at HC HC' hz ⊢
  clear h1 h2
  have hl' : ((n : Int) == (n : Int)) = true := beq_self_eq_true _
  go_enter Try.func7, Try.ntmps7
  go_wp2
  go_loopw [5] (fun i wr => ∃ k m : Nat, k ≤ n ∧ i = .int .i64 k ∧ wr = w.drewN m) (fun i _ => (n - intOf i).toNat)
  case atStart => exact ⟨0, 0, by omega, rfl, rfl⟩
  case round =>
    obtain ⟨k, m, hk, rfl, rfl⟩ := hrel
    by_cases hlt : k < n
    · have hlt' : (k : Int) < n := by omega
      have hkL : k < L.length := by rw [HN.out]; exact hlt
      obtain ⟨x, HX⟩ : ∃ x : Tl, Hid (L[k]? = some x) := ⟨L[k]'hkL, List.getElem?_eq_getElem hkL⟩
      obtain ⟨b, rfl, hc⟩ : ∃ b, a = some ⟨b, 0, none⟩ ∧ At4 w b k x := by
        rcases HC.out with h | ⟨b, h, hh⟩
        · omega
        · exact ⟨b, h, hh k _ HX.out⟩
      obtain ⟨b', rfl, hc'⟩ : ∃ b, a' = some ⟨b, 0, none⟩ ∧ At4 w b k x := by
        rcases HC'.out with h | ⟨b, h, hh⟩
        · omega
        · exact ⟨b, h, hh k _ HX.out⟩
      obtain ⟨x1, x2, x3, x4⟩ := x
      obtain ⟨c1, c2, c3, c4⟩ := hc
      obtain ⟨d1, d2, d3, d4⟩ := hc'
      dsimp only at c1 c2 c3 c4 d1 d2 d3 d4
      go_wp2_with fail
      go_quiet (fail)
      go_wp2
      go_roundw
      case rel => exact ⟨k + 1, _, by omega, by go_num, rfl⟩
      case measure => simp [intOf]; omega
    · have hlt' : ¬ (k : Int) < n := by omega
      go_wp2
      go_ret
      exact ⟨rfl, _, rfl⟩
theorem numL (x : Int) (w : World) : Calls Try.prog 6 #[.int .i64 x] w fun e w' => e = .returned (.int .i64 x) ∧ w' = w := by
  go_enter Try.func6, Try.ntmps6
  go_wp2
  go_ret
  exact ⟨rfl, rfl⟩
def Off (u v : Value) : Prop := ∀ g, u.ownBlock = some g → v.ownBlock ≠ some g
theorem Off.symm {u v : Value} (h : Off u v) : Off v u := fun g h1 h2 => h g h2 h1
theorem own_row_other {w w' : World} {B e size n : Nat} {v p : Value} {xs : List Value} (h : w.ownsRow B e size v n xs) (hne : Off p v) (hg : w.grownBy w' p.ownBlock) : w'.ownsRow B e size v n xs := by
  refine ⟨h.1, ?_⟩
  rcases h.2 with hn | ⟨g, cap, cur, rfl, hb, hgg, rest⟩
  · exact .inl hn
  · refine .inr ⟨g, cap, cur, rfl, hb, ?_, rest⟩
    rw [hg.block g (Array.getElem?_eq_some_iff.1 hgg).1 ?_]
    · exact hgg
    · intro he
      exact hne g he.symm rfl
-- a row that changes, and lists that stay
structure Fr1 (w : World) (W : Nat) (p : Value) (np : Nat) (cp : List Value) (st : List (Value × List Tl)) : Prop where
  rp : w.ownsRow W 31 4 p np cp
  rs : ∀ x ∈ st, w.ownsRow W 31 4 x.1 x.2.length (cl4s x.2)
  op : ∀ x ∈ st, Off p x.1
theorem Fr1.later {w w' : World} {W : Nat} {p : Value} {np : Nat} {cp : List Value} {st : List (Value × List Tl)} (h : Fr1 w W p np cp st) (hb : Below w.heap.size w w') : Fr1 w' W p np cp st :=
  ⟨own_later h.rp hb, fun x hx => own_later (h.rs x hx) hb, h.op⟩
theorem Fr1.grow {w w' : World} {W : Nat} {p p' : Value} {np np' : Nat} {cp cp' : List Value} {st : List (Value × List Tl)} (h : Fr1 w W p np cp st) (ho : w'.ownsRow W 31 4 p' np' cp') (hg : w.grownBy w' p.ownBlock) (hat : p'.ownBlock = p.ownBlock ∨ p'.ownBlock = some w.heap.size) : Fr1 w' W p' np' cp' st := by
  have off : ∀ (v : Value), Off p v → (∀ g, v.ownBlock = some g → g < w.heap.size) → Off p' v := by
    intro v h1 h2 g e1 e2
    rcases hat with e | e
    · rw [e] at e1; exact h1 g e1 e2
    · rw [e] at e1
      obtain rfl := Option.some.inj e1
      have := h2 _ e2
      omega
  exact ⟨ho, fun x hx => own_row_other (h.rs x hx) (h.op x hx) hg, fun x hx => off x.1 (h.op x hx) (fun g e => ((h.rs x hx).lt g e).2)⟩
theorem Fr1.put {w : World} {W g cap : Nat} {np : Nat} {cp : List Value} {st : List (Value × List Tl)} (h : Fr1 w W (.slice (some ⟨g, 0, none⟩) np cap) np cp st) (j : Nat) (u : Value) : Fr1 (w.setCell ⟨g, j, none⟩ u) W (.slice (some ⟨g, 0, none⟩) np cap) np (cp.set j u) st :=
  h.grow (h.rp.stored j u).1 (h.rp.stored j u).2 (.inl rfl)
-- marks
def mk1 : List Value := [.int .i64 (-1), .int .i64 0, .int .i64 0, .int .i64 0]
def mks (n : Nat) : List Value := (List.replicate n mk1).flatten
theorem mks_succ (n : Nat) : mks (n + 1) = mks n ++ mk1 := by
  unfold mks
  rw [List.replicate_succ', List.flatten_append]
  simp
theorem mks_len (n : Nat) : (mks n).length = n * 4 := by
  induction n with
  | zero => rfl
  | succ n ih => rw [mks_succ, List.length_append, ih]; show _ + 4 = _; omega
def fillM (C : List Value) (k : Nat) : List Value := mks k ++ C.drop (k * 4)
theorem fillM_zero (C : List Value) : fillM C 0 = C := rfl
theorem fillM_end (C : List Value) (n : Nat) (h : C.length = n * 4) : fillM C n = mks n := by
  unfold fillM
  rw [List.drop_of_length_le (by omega), List.append_nil]
theorem fillM_len (C : List Value) (n k : Nat) (h : C.length = n * 4) (hk : k ≤ n) : (fillM C k).length = n * 4 := by
  unfold fillM
  rw [List.length_append, mks_len, List.length_drop]
  omega
theorem drop4 (C : List Value) (k : Nat) (h : k + 3 < C.length) : ∃ a b c d, C.drop k = a :: b :: c :: d :: C.drop (k + 4) := by
  refine ⟨C[k]'(by omega), C[k + 1]'(by omega), C[k + 2]'(by omega), C[k + 3]'h, ?_⟩
  rw [List.drop_eq_getElem_cons (by omega), List.drop_eq_getElem_cons (show k + 1 < _ by omega), List.drop_eq_getElem_cons (show k + 1 + 1 < _ by omega), List.drop_eq_getElem_cons (show k + 1 + 1 + 1 < _ by omega)]
theorem fillM_set (C : List Value) (k : Nat) (h : k * 4 + 3 < C.length) : ((((fillM C k).set (k * 4) (.int .i64 (-1))).set (k * 4 + 1) (.int .i64 0)).set (k * 4 + 2) (.int .i64 0)).set (k * 4 + 3) (.int .i64 0) = fillM C (k + 1) := by
  obtain ⟨a, b, c, d, e⟩ := drop4 C (k * 4) h
  unfold fillM
  rw [e, mks_succ, List.append_assoc, show (k + 1) * 4 = k * 4 + 4 by omega]
  have hl := mks_len k
  generalize mks k = M at *
  rw [List.set_append_right _ _ (by omega), List.set_append_right _ _ (by omega), List.set_append_right _ _ (by omega), List.set_append_right _ _ (by omega), show k * 4 - M.length = 0 by omega, show k * 4 + 1 - M.length = 1 by omega, show k * 4 + 2 - M.length = 2 by omega, show k * 4 + 3 - M.length = 3 by omega]
  rfl
theorem own_form {w : World} {B e size n : Nat} {v : Value} {xs : List Value} (h : w.ownsRow B e size v n xs) : ∃ a c, v = .slice a n c := by
  rcases h.2 with ⟨rfl, rfl⟩ | ⟨g, cap, cur, rfl, _⟩
  · exact ⟨_, _, rfl⟩
  · exact ⟨_, _, rfl⟩
theorem own_some {w : World} {B e size n c : Nat} {a : Option Addr} {xs : List Value} (h : w.ownsRow B e size (.slice a n c) n xs) (hn : 0 < n) : ∃ g, a = some ⟨g, 0, none⟩ ∧ B ≤ g := by
  rcases h.2 with ⟨_, e⟩ | ⟨g, cap, cur, e, hb, _⟩
  · omega
  · injection e with e1 _ _
    exact ⟨g, e1, hb⟩
theorem off_of {w1 w2 : World} {B1 B2 e1 e2 s1 s2 n1 n2 : Nat} {u v : Value} {x1 x2 : List Value} (h1 : w1.ownsRow B1 e1 s1 u n1 x1) (h2 : w2.ownsRow B2 e2 s2 v n2 x2) (h : w1.heap.size ≤ B2) : Off u v := by
  intro g e1 e2
  have := (h1.lt g e1).2
  have := (h2.lt g e2).1
  omega
end Go.Proofs.Ytoakkoalkpfkmaa.d9
