import Derived.Test.YtjjeiklhmbhhoaaDoorCs
import Derived.Maps.AppendAt
import Derived.Deep.DeepCutAuto
namespace Go.Proofs.YtjjeiklhmbhhoaaDoor.ci
open Go.RowKit Go.PlainAid
open Go.Proofs.YtjjeiklhmbhhoaaDoor.ca Go.Proofs.YtjjeiklhmbhhoaaDoor.cb Go.Proofs.YtjjeiklhmbhhoaaDoor.cp Go.Proofs.YtjjeiklhmbhhoaaDoor.cs
set_option linter.unusedVariables false

def Off (u v : Value) : Prop := ∀ g, u.ownBlock = some g → v.ownBlock ≠ some g
theorem Off.symm {u v : Value} (h : Off u v) : Off v u := fun g h1 h2 => h g h2 h1
theorem own_row_other {w w' : World} {B e size n : Nat} {v p : Value} {xs : List Value} (h : w.ownsRow B e size v n xs) (hne : Off p v) (hg : w.grownBy w' p.ownBlock) : w'.ownsRow B e size v n xs := by
  refine ⟨h.1, ?_⟩
  rcases h.2 with hn | ⟨g, cap, cur, rfl, hb, hgg, rest⟩
  · exact .inl hn
  · refine .inr ⟨g, cap, cur, rfl, hb, ?_, rest⟩
    rw [hg.block g (Array.getElem?_eq_some_iff.1 hgg).1 ?_]
    · exact hgg
    · intro he
      exact hne g he.symm rfl
-- two rows that change, and lists that stay
structure Fr (w : World) (W : Nat) (p q : Value) (np nq : Nat) (cp cq : List Value) (st : List (Value × List (Nat × Nat))) : Prop where
  rp : w.ownsRow W 29 2 p np cp
  rq : w.ownsRow W 29 2 q nq cq
  ne : Off p q
  rs : ∀ x ∈ st, w.ownsRow W 29 2 x.1 x.2.length (cls x.2)
  op : ∀ x ∈ st, Off p x.1
  oq : ∀ x ∈ st, Off q x.1
theorem Fr.swap {w : World} {W : Nat} {p q : Value} {np nq : Nat} {cp cq : List Value} {st : List (Value × List (Nat × Nat))} (h : Fr w W p q np nq cp cq st) : Fr w W q p nq np cq cp st := ⟨h.rq, h.rp, h.ne.symm, h.rs, h.oq, h.op⟩
theorem Fr.later {w w' : World} {W : Nat} {p q : Value} {np nq : Nat} {cp cq : List Value} {st : List (Value × List (Nat × Nat))} (h : Fr w W p q np nq cp cq st) (hb : Below w.heap.size w w') : Fr w' W p q np nq cp cq st :=
  ⟨own_later h.rp hb, own_later h.rq hb, h.ne, fun x hx => own_later (h.rs x hx) hb, h.op, h.oq⟩
theorem Fr.grow {w w' : World} {W : Nat} {p p' q : Value} {np np' nq : Nat} {cp cp' cq : List Value} {st : List (Value × List (Nat × Nat))} (h : Fr w W p q np nq cp cq st) (ho : w'.ownsRow W 29 2 p' np' cp') (hg : w.grownBy w' p.ownBlock) (hat : p'.ownBlock = p.ownBlock ∨ p'.ownBlock = some w.heap.size) : Fr w' W p' q np' nq cp' cq st := by
  have off : ∀ (v : Value), Off p v → (∀ g, v.ownBlock = some g → g < w.heap.size) → Off p' v := by
    intro v h1 h2 g e1 e2
    rcases hat with e | e
    · rw [e] at e1; exact h1 g e1 e2
    · rw [e] at e1
      obtain rfl := Option.some.inj e1
      have := h2 _ e2
      omega
  exact ⟨ho, own_row_other h.rq h.ne hg, off q h.ne (fun g e => (h.rq.lt g e).2), fun x hx => own_row_other (h.rs x hx) (h.op x hx) hg, fun x hx => off x.1 (h.op x hx) (fun g e => ((h.rs x hx).lt g e).2), h.oq⟩
theorem Fr.put {w : World} {W g cap : Nat} {q : Value} {np nq : Nat} {cp cq : List Value} {st : List (Value × List (Nat × Nat))} (h : Fr w W (.slice (some ⟨g, 0, none⟩) np cap) q np nq cp cq st) (j : Nat) (u : Value) : Fr (w.setCell ⟨g, j, none⟩ u) W (.slice (some ⟨g, 0, none⟩) np cap) q np nq (cp.set j u) cq st :=
  h.grow (h.rp.stored j u).1 (h.rp.stored j u).2 (.inl rfl)
-- marks
def mks (a : Int) (n : Nat) : List Value := (List.replicate n [Value.int .i64 a, Value.int .i64 0]).flatten
theorem mks_succ (a : Int) (n : Nat) : mks a (n + 1) = mks a n ++ [.int .i64 a, .int .i64 0] := by
  unfold mks
  rw [List.replicate_succ', List.flatten_append]
  simp
theorem mks_len (a : Int) (n : Nat) : (mks a n).length = n * 2 := by
  induction n with
  | zero => rfl
  | succ n ih => rw [mks_succ, List.length_append, ih]; show _ + 2 = _; omega
theorem mks_get (a : Int) (n i : Nat) (h : i < n) : (mks a n)[i * 2]? = some (.int .i64 a) := by
  induction n with
  | zero => omega
  | succ n ih =>
    rw [mks_succ]
    rcases Nat.lt_or_ge i n with e | e
    · rw [List.getElem?_append_left (by rw [mks_len]; omega)]
      exact ih e
    · rw [List.getElem?_append_right (by rw [mks_len]; omega), mks_len, show i * 2 - n * 2 = 0 by omega]
      rfl
def fillM (a : Int) (C : List Value) (k : Nat) : List Value := mks a k ++ C.drop (k * 2)
theorem fillM_zero (a : Int) (C : List Value) : fillM a C 0 = C := rfl
theorem fillM_end (a : Int) (C : List Value) (n : Nat) (h : C.length = n * 2) : fillM a C n = mks a n := by
  unfold fillM
  rw [List.drop_of_length_le (by omega), List.append_nil]
theorem fillM_len (a : Int) (C : List Value) (n k : Nat) (h : C.length = n * 2) (hk : k ≤ n) : (fillM a C k).length = n * 2 := by
  unfold fillM
  rw [List.length_append, mks_len, List.length_drop]
  omega
theorem fillM_set (a : Int) (C : List Value) (k : Nat) (h : k * 2 + 1 < C.length) : ((fillM a C k).set (k * 2) (.int .i64 a)).set (k * 2 + 1) (.int .i64 0) = fillM a C (k + 1) := by
  unfold fillM
  rw [List.set_append_right _ _ (by rw [mks_len]; omega), mks_len, Nat.sub_self, List.set_append_right _ _ (by rw [mks_len]; omega), mks_len, show k * 2 + 1 - k * 2 = 1 by omega, List.drop_eq_getElem_cons (by omega), List.drop_eq_getElem_cons h, mks_succ, List.append_assoc, show (k + 1) * 2 = k * 2 + 1 + 1 by omega]
  rfl
theorem own_form {w : World} {B e size n : Nat} {v : Value} {xs : List Value} (h : w.ownsRow B e size v n xs) : ∃ a c, v = .slice a n c := by
  rcases h.2 with ⟨rfl, rfl⟩ | ⟨g, cap, cur, rfl, _⟩
  · exact ⟨_, _, rfl⟩
  · exact ⟨_, _, rfl⟩
theorem own_some {w : World} {B e size n c : Nat} {a : Option Addr} {xs : List Value} (h : w.ownsRow B e size (.slice a n c) n xs) (hn : 0 < n) : ∃ g, a = some ⟨g, 0, none⟩ ∧ B ≤ g := by
  rcases h.2 with ⟨_, e⟩ | ⟨g, cap, cur, e, hb, _⟩
  · omega
  · injection e with e1 _ _
    exact ⟨g, e1, hb⟩
theorem off_of {w1 w2 : World} {B1 B2 e1 e2 s1 s2 n1 n2 : Nat} {u v : Value} {x1 x2 : List Value} (h1 : w1.ownsRow B1 e1 s1 u n1 x1) (h2 : w2.ownsRow B2 e2 s2 v n2 x2) (h : w1.heap.size ≤ B2) : Off u v := by
  intro g e1 e2
  have := (h1.lt g e1).2
  have := (h2.lt g e2).1
  omega
end Go.Proofs.YtjjeiklhmbhhoaaDoor.ci
