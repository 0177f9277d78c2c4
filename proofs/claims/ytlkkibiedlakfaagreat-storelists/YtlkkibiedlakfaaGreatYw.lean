import Derived.Test.YtlkkibiedlakfaaGreatYt
namespace Go.Proofs.YtlkkibiedlakfaaGreat.yw
open Go.Maps
open Go.Proofs.YtlkkibiedlakfaaGreat.ya Go.Proofs.YtlkkibiedlakfaaGreat.yb Go.Proofs.YtlkkibiedlakfaaGreat.yc Go.Proofs.YtlkkibiedlakfaaGreat.yd Go.Proofs.YtlkkibiedlakfaaGreat.ye Go.Proofs.YtlkkibiedlakfaaGreat.yf Go.Proofs.YtlkkibiedlakfaaGreat.yi Go.Proofs.YtlkkibiedlakfaaGreat.yk Go.Proofs.YtlkkibiedlakfaaGreat.yl Go.Proofs.YtlkkibiedlakfaaGreat.ym Go.Proofs.YtlkkibiedlakfaaGreat.yr Go.Proofs.YtlkkibiedlakfaaGreat.yt
set_option linter.unusedVariables false
set_option linter.unusedSimpArgs false
-- a record that is durable, and that no pending write touches
structure Held (k d : ByteArray) (s : S) : Prop where
  dur : rget k s.dur = some d
  pend : ∀ x ∈ s.pend, x.key ≠ k
  srt : Srt s.dur
theorem Held.now {k d : ByteArray} {s : S} (h : Held k d s) : rget k (now s) = some d := by
  unfold ye.now
  rw [get_do h.srt h.pend]
  exact h.dur
theorem held_spend {k d : ByteArray} {s : S} (h : Held k d s) : Held k d (spendS s).2 := ⟨by rw [dur_spend]; exact h.dur, by rw [pend_spend]; exact h.pend, by rw [dur_spend]; exact h.srt⟩
theorem held_add {k d : ByteArray} {s : S} {x : W} (h : Held k d s) (hx : x.key ≠ k) : Held k d (addW s x) := by
  refine ⟨h.dur, fun y hy => ?_, h.srt⟩
  rcases List.mem_append.1 hy with hy | hy
  · exact h.pend y hy
  · rw [List.mem_singleton.1 hy]; exact hx
theorem held_do {k d : ByteArray} {s : S} (o : Opn) (h : Held k d s) (hn : (o.kind = 1 ∨ o.kind = 2) → o.key ≠ k) : Held k d (doO s o) := by
  unfold doO doS
  split
  · rename_i e
    unfold putS
    split
    · exact h
    · split
      · split
        · exact h
        · exact held_spend (held_add h (hn (.inl e)))
      · exact h
  · split
    · rename_i e
      unfold cutS
      split
      · exact h
      · split
        · exact held_spend (held_add h (hn (.inr e)))
        · exact h
    · split
      · unfold syncS
        split
        · exact h
        · split
          · exact held_spend h
          · exact ⟨h.now, fun x hx => (by cases hx), srt_do h.srt⟩
      · split
        · unfold armS
          split
          · exact h
          · exact ⟨h.dur, h.pend, h.srt⟩
        · split
          · exact ⟨(get_kd h.srt h.pend _).trans h.dur, fun x hx => (by cases hx), srt_kd h.srt _⟩
          · split <;> exact h
-- what was put and synced is held
theorem held_put {k d : ByteArray} {s : S} (hp : s.pend = []) (hs : Srt s.dur) (h1 : (putS s k d).1 = 0) (h2 : (syncS (putS s k d).2).1 = 0) : Held k d (syncS (putS s k d).2).2 := by
  have e : putS s k d = spendS (addW s ⟨false, k, d⟩) := by
    unfold putS at h1 ⊢
    split
    · rename_i h; rw [if_pos h] at h1; exact absurd h1 h
    · rename_i h
      rw [if_neg h] at h1
      split
      · rename_i h'
        rw [if_pos h'] at h1
        split
        · rename_i h''; rw [if_pos h''] at h1; exact absurd h1 (by simp)
        · rfl
      · rename_i h'; rw [if_neg h'] at h1; exact absurd h1 (by simp)
  rw [e] at h2 ⊢
  have hnow : ye.now (spendS (addW s ⟨false, k, d⟩)).2 = put k d s.dur := by
    rw [now_spend, now_add]
    unfold ye.now
    rw [hp]
    rfl
  unfold syncS at h2 ⊢
  split
  · rename_i h; rw [if_pos h] at h2; exact absurd h2 (by simp)
  · rename_i h
    rw [if_neg h] at h2
    split
    · rename_i h'; rw [if_pos h'] at h2; exact absurd h2 h'
    · exact ⟨by show rget k (ye.now (spendS (addW s ⟨false, k, d⟩)).2) = _; rw [hnow]; exact get_put_same hs, fun x hx => (by cases hx), by show Srt (ye.now (spendS (addW s ⟨false, k, d⟩)).2); rw [hnow]; exact srt_put hs⟩
end Go.Proofs.YtlkkibiedlakfaaGreat.yw
