import Derived.Test.YtjkkijeamcihiaaLh
import Derived.Test.YtjkkijeamcihiaaLe
namespace Go.Proofs.Ytjkkijeamcihiaa.lk
open Go.RowKit Go.PlainAid Go.Maps
open Go.Proofs.Ytjkkijeamcihiaa.cp Go.Proofs.Ytjkkijeamcihiaa.kp Go.Proofs.Ytjkkijeamcihiaa.ka Go.Proofs.Ytjkkijeamcihiaa.bn Go.Proofs.Ytjkkijeamcihiaa.ra Go.Proofs.Ytjkkijeamcihiaa.rb Go.Proofs.Ytjkkijeamcihiaa.rc Go.Proofs.Ytjkkijeamcihiaa.rd Go.Proofs.Ytjkkijeamcihiaa.re Go.Proofs.Ytjkkijeamcihiaa.rf Go.Proofs.Ytjkkijeamcihiaa.rg Go.Proofs.Ytjkkijeamcihiaa.rh Go.Proofs.Ytjkkijeamcihiaa.ri Go.Proofs.Ytjkkijeamcihiaa.rj Go.Proofs.Ytjkkijeamcihiaa.rk Go.Proofs.Ytjkkijeamcihiaa.sa Go.Proofs.Ytjkkijeamcihiaa.lz Go.Proofs.Ytjkkijeamcihiaa.la Go.Proofs.Ytjkkijeamcihiaa.lb Go.Proofs.Ytjkkijeamcihiaa.lc Go.Proofs.Ytjkkijeamcihiaa.ld Go.Proofs.Ytjkkijeamcihiaa.le Go.Proofs.Ytjkkijeamcihiaa.lh
open Go.Proofs.Ytjkkijeamcihiaa.rl (below_grownBy)
set_option linter.unusedVariables false
set_option linter.unusedSimpArgs false
theorem reads_cut {w : World} {a : Option Addr} {n c m : Nat} {xs : List ByteArray} (h : ReadsT w (.slice a n c) xs) (hm : m ≤ xs.length) : ReadsT w (.slice a m c) (xs.take m) := by
  have hl : (xs.take m).length = m := by rw [List.length_take]; omega
  obtain ⟨a', c', e, hc, hh⟩ := h
  have e1 := (Value.slice.inj e).1
  have e3 := (Value.slice.inj e).2.2
  subst e1 e3
  refine ⟨_, c, by rw [hl], by omega, ?_⟩
  rcases hh with h0 | ⟨b, off, rfl, hh⟩
  · left; omega
  · refine .inr ⟨b, off, rfl, fun i hi => ?_⟩
    rw [hl] at hi
    rw [hh i (by omega), List.getD_eq_getElem?_getD, List.getD_eq_getElem?_getD, List.getElem?_take, if_pos hi]
theorem one_cut {σ : Type} {O : Thg σ} {B : Nat} {s : σ} {a : Option Addr} {n c m : Nat} {xs : List ByteArray} {w0 w : World} (h : One (pairO O (RowO rdT)) B (s, (.slice a n c, xs)) w0 w) (hm : m ≤ xs.length) : One (pairO O (RowO rdT)) B (s, (.slice a m c, xs.take m)) w0 w := by
  obtain ⟨F, ⟨F1, F2, h1, ⟨h2, h3, h4⟩, h5, h6⟩, h7⟩ := h
  exact ⟨F, ⟨F1, F2, h1, ⟨reads_cut h2 hm, fun k hk hl => h3 k (show (Value.slice a n c).ownBlock = some k by cases a <;> exact hk) (fun e => hl (by show xs.take m = []; rw [show xs = [] from e]; exact List.take_nil)), h4⟩, h5, h6⟩, h7⟩
theorem one_row {σ : Type} {O : Thg σ} {B : Nat} {s : σ} {v u : Value} {xs ys : List ByteArray} {w0 w w' : World} (h : One (pairO O (RowO rdT)) B (s, (v, xs)) w0 w) (ho : w'.ownsRow w.heap.size 9 1 u ys.length (ys.map Value.string)) (hb : Below w.heap.size w w') : One (pairO O (RowO rdT)) B (s, (u, ys)) w0 w' :=
  One.put (One.fst h) (row_new (r := rdT) (own_readsT ho) ho.lt).1 hb (row_new (r := rdT) (own_readsT ho) ho.lt).2
theorem one_reads {σ α : Type} {O : Thg σ} {r : Rdr α} {B : Nat} {s : σ} {x : Value × List α} {w0 w : World} (h : One (pairO O (RowO r)) B (s, x) w0 w) : r.R w x.1 x.2 := (One.get (One.snd h)).choose_spec.1
theorem mem_keys {k : K} {l : List (K × V)} : (fnd k l).isSome = true ↔ k ∈ keys l := by
  constructor
  · intro h
    obtain ⟨v, hv⟩ := Option.isSome_iff_exists.1 h
    exact List.mem_map.2 ⟨_, fnd_mem hv, rfl⟩
  · intro h
    obtain ⟨p, hp, e⟩ := List.mem_map.1 h
    cases hf : fnd k l with
    | none => exact absurd e (fnd_none.1 hf p hp)
    | some v => rfl
theorem fl_keys (k : K) (l : List (K × V)) : fl k (keys l) = keys (rm k l) := (keys_rm k l).symm
theorem put_keys {s : St} (h : Ok s) (k : K) (v : V) : keys (putS s k v).l = (k :: fl k (keys s.l)).take s.most := by
  rw [fl_keys]
  have hl := h.len
  unfold putS
  cases hf : fnd k s.l with
  | some x =>
    have := rm_lt h.nd hf
    dsimp only
    rw [List.take_of_length_le (by simp only [List.length_cons, keys, List.length_map]; omega)]
    rfl
  | none =>
    rw [rm_none hf]
    dsimp only
    by_cases h0 : s.most = 0
    · rw [if_pos h0, h0]
      have : s.l = [] := List.length_eq_zero_iff.1 (by omega)
      dsimp only
      rw [this]; rfl
    · rw [if_neg h0]
      by_cases h1 : s.l.length < s.most
      · rw [if_pos h1, List.take_of_length_le (by simp only [List.length_cons, keys, List.length_map]; omega)]
        rfl
      · rw [if_neg h1]
        dsimp only
        obtain ⟨m, hm⟩ : ∃ m, s.most = m + 1 := ⟨s.most - 1, by omega⟩
        rw [hm, List.take_succ_cons]
        show k :: keys s.l.dropLast = _
        congr 1
        unfold keys
        rw [List.map_dropLast, List.dropLast_eq_take, List.length_map]
        congr 1
        omega
theorem get_keys {s : St} (k : K) {v : V} (hf : fnd k s.l = some v) : keys (getS s k).l = k :: fl k (keys s.l) := by
  rw [fl_keys]
  unfold getS
  rw [hf]
  rfl
theorem put_peek {s : St} (h : Ok s) (k : K) (v : V) : fnd k (putS s k v).l = if s.most = 0 then none else some v := by
  have hl := h.len
  unfold putS
  cases hf : fnd k s.l with
  | some x =>
    have := rm_lt h.nd hf
    have h0 : ¬ s.most = 0 := by omega
    simp [fnd, h0]
  | none =>
    dsimp only
    by_cases h0 : s.most = 0
    · rw [if_pos h0, if_pos h0]; exact hf
    · rw [if_neg h0, if_neg h0]
      split <;> simp [fnd]
theorem put_cnt (s : St) (k : K) (v : V) : cntS (putS s k v) ≤ cntS s + 1 ∧ (putS s k v).most = s.most := by
  unfold putS
  split
  · exact ⟨Nat.le_succ _, rfl⟩
  · split
    · exact ⟨by show _ + _ + _ ≤ _; simp only [cntS]; omega, rfl⟩
    · split
      · exact ⟨Nat.le_succ _, rfl⟩
      · exact ⟨by show _ + _ + _ ≤ _; simp only [cntS]; omega, rfl⟩
theorem get_cnt (s : St) (k : K) : cntS (getS s k) ≤ cntS s + 1 ∧ (getS s k).most = s.most := by
  unfold getS; split <;> exact ⟨by show _ + _ + _ ≤ _; simp only [cntS]; omega, rfl⟩
end Go.Proofs.Ytjkkijeamcihiaa.lk
