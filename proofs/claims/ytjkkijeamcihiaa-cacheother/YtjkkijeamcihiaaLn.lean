import Derived.Test.YtjkkijeamcihiaaSa
namespace Go.Proofs.Ytjkkijeamcihiaa.ln
open Go.Proofs.Ytjkkijeamcihiaa.sa
set_option linter.unusedVariables false
set_option linter.unusedSimpArgs false
section
variable {κ ν : Type} [DecidableEq κ]
-- a greater cache beside a smaller one
structure Nst (a b : S κ ν) : Prop where
  sub : a.l.Sublist b.l
  room : b.l.length + a.most ≤ a.l.length + b.most
  hits : a.hits ≤ b.hits
  misses : b.misses ≤ a.misses
  gone : b.gone ≤ a.gone
  oa : Ok a
  ob : Ok b
theorem drop_sub {α : Type} {x y : List α} (h : x.Sublist y) : x.dropLast.Sublist y.dropLast := by
  induction h with
  | slnil => simp
  | cons a h ih =>
    rename_i l1 l2
    cases l2 with
    | nil => cases h; simp
    | cons b l2 => rw [List.dropLast_cons_of_ne_nil (by simp)]; exact ih.cons _
  | cons_cons a h ih =>
    rename_i l1 l2
    cases l2 with
    | nil => cases h; simp
    | cons b l2 =>
      cases l1 with
      | nil => simp
      | cons c l1 =>
        show (a :: (c :: l1).dropLast).Sublist (a :: (b :: l2).dropLast)
        exact ih.cons_cons _
theorem Nst.inn {a b : S κ ν} (h : Nst a b) {p : κ × ν} (hp : p ∈ a.l) : fnd p.1 b.l = some p.2 := (fnd_some h.ob.nd).2 (h.sub.subset hp)
theorem Nst.found {a b : S κ ν} (h : Nst a b) {k : κ} {v : ν} (hf : fnd k a.l = some v) : fnd k b.l = some v := h.inn (fnd_mem hf)
theorem rm_sub {k : κ} {x y : List (κ × ν)} (h : x.Sublist y) : (rm k x).Sublist (rm k y) := h.filter _
theorem Nst.get {a b : S κ ν} (h : Nst a b) (k : κ) : Nst (getS a k) (getS b k) := by
  have oa := h.oa.get k
  have ob := h.ob.get k
  unfold getS at *
  cases ha : fnd k a.l with
  | some v =>
    have hb := h.found ha
    rw [ha] at oa
    rw [hb] at ob ⊢
    dsimp only at *
    have l1 := rm_lt h.oa.nd ha
    have l2 := rm_lt h.ob.nd hb
    exact ⟨(rm_sub h.sub).cons_cons _, by have := h.room; simp only [List.length_cons]; omega, by have := h.hits; simp only; omega, h.misses, h.gone, oa, ob⟩
  | none =>
    rw [ha] at oa
    cases hb : fnd k b.l with
    | none =>
      rw [hb] at ob
      exact ⟨h.sub, h.room, h.hits, by have := h.misses; simp only; omega, h.gone, oa, ob⟩
    | some v =>
      rw [hb] at ob
      dsimp only at *
      have l2 := rm_lt h.ob.nd hb
      refine ⟨?_, by have := h.room; simp only [List.length_cons]; omega, by have := h.hits; simp only; omega, by have := h.misses; simp only; omega, h.gone, oa, ob⟩
      have := rm_sub (k := k) h.sub
      rw [rm_none ha] at this
      exact this.cons _
theorem Nst.drop {a b : S κ ν} (h : Nst a b) (k : κ) : Nst (dropS a k) (dropS b k) := by
  refine ⟨rm_sub h.sub, ?_, h.hits, h.misses, h.gone, h.oa.drop k, h.ob.drop k⟩
  show (rm k b.l).length + a.most ≤ (rm k a.l).length + b.most
  have hr := h.room
  cases ha : fnd k a.l with
  | some v =>
    have l1 := rm_lt h.oa.nd ha
    have l2 := rm_lt h.ob.nd (h.found ha)
    omega
  | none =>
    rw [rm_none ha]
    have := rm_len (k := k) (l := b.l)
    omega
omit [DecidableEq κ] in
theorem Nst.clear {a b : S κ ν} (h : Nst a b) : Nst (clearS a) (clearS b) := by
  refine ⟨List.Sublist.refl _, ?_, h.hits, h.misses, h.gone, h.oa.clear, h.ob.clear⟩
  show 0 + a.most ≤ 0 + b.most
  have := h.room
  have := h.sub.length_le
  omega
theorem Nst.put {a b : S κ ν} (h : Nst a b) (k : κ) (v : ν) : Nst (putS a k v) (putS b k v) := by
  have oa := h.oa.put k v
  have ob := h.ob.put k v
  have hr := h.room
  have hl := h.oa.len
  have hlb := h.ob.len
  unfold putS at *
  cases ha : fnd k a.l with
  | some x =>
    have hb := h.found ha
    rw [ha] at oa
    rw [hb] at ob ⊢
    dsimp only at *
    have l1 := rm_lt h.oa.nd ha
    have l2 := rm_lt h.ob.nd hb
    exact ⟨(rm_sub h.sub).cons_cons _, by simp only [List.length_cons]; omega, h.hits, h.misses, h.gone, oa, ob⟩
  | none =>
    rw [ha] at oa
    dsimp only at oa ⊢
    cases hb : fnd k b.l with
    | some x =>
      rw [hb] at ob
      dsimp only at ob ⊢
      have l2 := rm_lt h.ob.nd hb
      have hs := rm_sub (k := k) h.sub
      rw [rm_none ha] at hs
      by_cases h0 : a.most = 0
      · rw [if_pos h0] at oa ⊢
        have : a.l = [] := by rw [← List.length_eq_zero_iff]; omega
        refine ⟨by simp only; rw [this]; exact List.nil_sublist _, by simp only [List.length_cons]; omega, h.hits, h.misses, by have := h.gone; simp only; omega, oa, ob⟩
      · rw [if_neg h0] at oa ⊢
        by_cases h1 : a.l.length < a.most
        · rw [if_pos h1] at oa ⊢
          exact ⟨hs.cons_cons _, by simp only [List.length_cons]; omega, h.hits, h.misses, h.gone, oa, ob⟩
        · rw [if_neg h1] at oa ⊢
          refine ⟨((List.dropLast_sublist _).trans hs).cons_cons _, by simp only [List.length_cons, List.length_dropLast]; omega, h.hits, h.misses, by have := h.gone; simp only; omega, oa, ob⟩
    | none =>
      rw [hb] at ob
      dsimp only at ob ⊢
      by_cases h0 : a.most = 0
      · rw [if_pos h0] at oa ⊢
        have hn : a.l = [] := by rw [← List.length_eq_zero_iff]; omega
        have hn0 : a.l.length = 0 := by rw [hn]; rfl
        by_cases g0 : b.most = 0
        · rw [if_pos g0] at ob ⊢
          exact ⟨h.sub, hr, h.hits, h.misses, by have := h.gone; simp only; omega, oa, ob⟩
        · rw [if_neg g0] at ob ⊢
          by_cases g1 : b.l.length < b.most
          · rw [if_pos g1] at ob ⊢
            exact ⟨by simp only; rw [hn]; exact List.nil_sublist _, by simp only [List.length_cons]; omega, h.hits, h.misses, by have := h.gone; simp only; omega, oa, ob⟩
          · rw [if_neg g1] at ob ⊢
            exact ⟨by simp only; rw [hn]; exact List.nil_sublist _, by simp only [List.length_cons, List.length_dropLast]; omega, h.hits, h.misses, by have := h.gone; simp only; omega, oa, ob⟩
      · have g0 : ¬ b.most = 0 := by have := h.sub.length_le; omega
        rw [if_neg h0] at oa ⊢
        rw [if_neg g0] at ob ⊢
        by_cases h1 : a.l.length < a.most
        · have g1 : b.l.length < b.most := by omega
          rw [if_pos h1] at oa ⊢
          rw [if_pos g1] at ob ⊢
          exact ⟨h.sub.cons_cons _, by simp only [List.length_cons]; omega, h.hits, h.misses, h.gone, oa, ob⟩
        · rw [if_neg h1] at oa ⊢
          by_cases g1 : b.l.length < b.most
          · rw [if_pos g1] at ob ⊢
            exact ⟨((List.dropLast_sublist _).trans h.sub).cons_cons _, by simp only [List.length_cons, List.length_dropLast]; omega, h.hits, h.misses, by have := h.gone; simp only; omega, oa, ob⟩
          · rw [if_neg g1] at ob ⊢
            exact ⟨(drop_sub h.sub).cons_cons _, by simp only [List.length_cons, List.length_dropLast]; omega, h.hits, h.misses, by have := h.gone; simp only; omega, oa, ob⟩
end
end Go.Proofs.Ytjkkijeamcihiaa.ln
