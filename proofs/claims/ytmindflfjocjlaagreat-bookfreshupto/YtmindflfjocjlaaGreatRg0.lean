import Derived.Test.YtmindflfjocjlaaGreatRf0
import Derived.Lib.SlicesCompact
import Derived.Test.YtmindflfjocjlaaGreatRa0
import Derived.Test.YtmindflfjocjlaaGreatQ10
namespace Go.Proofs.YtmindflfjocjlaaGreat.ec
open Go.RowKit Go.PlainAid Go.Maps Go.Shelf
open Go.Proofs.YtmindflfjocjlaaGreat.ya Go.Proofs.YtmindflfjocjlaaGreat.yc Go.Proofs.YtmindflfjocjlaaGreat.yd Go.Proofs.YtmindflfjocjlaaGreat.ye Go.Proofs.YtmindflfjocjlaaGreat.yf Go.Proofs.YtmindflfjocjlaaGreat.yi Go.Proofs.YtmindflfjocjlaaGreat.yk Go.Proofs.YtmindflfjocjlaaGreat.yl Go.Proofs.YtmindflfjocjlaaGreat.ym
open Go.Proofs.YtmindflfjocjlaaGreat.tqa Go.Proofs.YtmindflfjocjlaaGreat.tba Go.Proofs.YtmindflfjocjlaaGreat.tbb Go.Proofs.YtmindflfjocjlaaGreat.tbc Go.Proofs.YtmindflfjocjlaaGreat.tbd Go.Proofs.YtmindflfjocjlaaGreat.tbe Go.Proofs.YtmindflfjocjlaaGreat.tbf
open Go.Proofs.YtmindflfjocjlaaGreat.tqb (kindT kindT_size spaceT spaceT_size key_is)
open Go.Proofs.YtmindflfjocjlaaGreat.tqc (keyT_kind)
open Go.Proofs.YtmindflfjocjlaaGreat.tlo (keys_apart bget_frame)
open Go.Proofs.YtmindflfjocjlaaGreat.ea Go.Proofs.YtmindflfjocjlaaGreat.eb
set_option linter.unusedVariables false
set_option linter.unusedSimpArgs false
def bdropS (s : S) (sp k n : Int) : Int × S := if 0 ≤ sp ∧ 1 ≤ k ∧ k ≤ 255 ∧ 0 ≤ n then cutS s (keyT sp k n) else (10, s)
def dropL (sp k : Int) (m : Nat) : List Int → S → Int × S
  | [], s => (0, s)
  | x :: xs, s => if k = 1 ∧ x < m then dropL sp k m xs s else if (bdropS s sp k x).1 = 0 then dropL sp k m xs (bdropS s sp k x).2 else bdropS s sp k x
def purgeL (sp : Int) (m : Nat) : List Int → S → Int × S
  | [], s => (0, s)
  | k :: ks, s => if (dropL sp k m (numbersS s sp k) s).1 = 0 then purgeL sp m ks (dropL sp k m (numbersS s sp k) s).2 else dropL sp k m (numbersS s sp k) s
def kindL (l : List ByteArray) : List Int := l.filterMap fun k => if k.size = 18 then some (bt k 9) else none
def kindsS (s : S) (sp : Int) : List Int := Lib.compact (kindL (keysS s (spaceT sp)))
def purgeS (s : S) (sp : Int) (m : Nat) : Int × S := purgeL sp m (kindsS s sp) s
def cutW (k : ByteArray) : W := ⟨true, k, ByteArray.empty⟩
theorem mem_compact {l : List Int} {x : Int} : x ∈ Lib.compact l ↔ x ∈ l := by
  have key : ∀ m, m ≤ l.length → ∀ x, x ∈ Lib.compactUpTo l.toArray m ↔ x ∈ l.take m := by
    intro m
    induction m with
    | zero => intro _ x; simp [Lib.compactUpTo]
    | succ m ih =>
      intro hm x
      have hg : l.toArray[m]! = l[m]'(by omega) := by
        rw [getElem!_pos l.toArray m (by simp; omega)]; simp
      have ht : l.take (m + 1) = l.take m ++ [l[m]'(by omega)] := by rw [List.take_add_one, List.getElem?_eq_getElem (by omega)]; rfl
      rw [Lib.compactUpTo_succ, List.mem_append, ih (by omega), ht, List.mem_append, hg]
      cases hk : Lib.keeps l.toArray m with
      | true => simp
      | false =>
        simp only [Bool.false_eq_true, if_false, List.not_mem_nil, or_false, List.mem_singleton]
        constructor
        · exact .inl
        · rintro (h | rfl)
          · exact h
          · have hm0 : m ≠ 0 := by
              rintro rfl
              simp [Lib.keeps] at hk
            have e : l[m]'(by omega) = l[m - 1]'(by omega) := by
              unfold Lib.keeps at hk
              have h1 : l.toArray[m - 1]! = l[m - 1]'(by omega) := by
                rw [getElem!_pos l.toArray (m - 1) (by simp; omega)]; simp
              rw [hg, h1] at hk
              simp [hm0] at hk
              exact hk
            rw [e, List.mem_take_iff_getElem]
            exact ⟨m - 1, by omega, rfl⟩
  have h := key l.length (Nat.le_refl _) x
  rw [List.take_length] at h
  exact h
theorem isKey_is {b : ByteArray} (h : isKey b = true) : ∃ sp k x, okI sp ∧ (1 ≤ k ∧ k ≤ 255) ∧ okI x ∧ b = keyT sp k x ∧ numOf b = some x := by
  have h1 := h
  unfold isKey at h1
  obtain ⟨⟨a1, a2, a3, a4⟩, e⟩ := of_decide_eq_true h1
  have g1 := nx8_rng (r1 b)
  have g2 := nx8_rng (r3 b)
  have b1 := sg_rng (kH b) g1.1 g1.2
  have b2 := sg_rng (kL b) g2.1 g2.2
  refine ⟨_, _, _, ⟨a1, b1.2⟩, ⟨a2, a3⟩, ⟨a4, b2.2⟩, e.symm, ?_⟩
  unfold numOf
  rw [if_pos h]
theorem mem_numbers {s : S} (ho : s.off = false) {sp k x : Int} (hs : okI sp) (hk : 1 ≤ k ∧ k ≤ 255) : x ∈ numbersS s sp k ↔ okI x ∧ (rget (keyT sp k x) (now s)).isSome = true := by
  unfold numbersS
  rw [if_pos ⟨hs.1, hk⟩]
  unfold nums keysS
  rw [ho]
  simp only [Bool.false_eq_true, if_false]
  rw [List.mem_filterMap]
  constructor
  · rintro ⟨key, h1, h2⟩
    obtain ⟨h3, h4⟩ := mem_keysL.1 h1
    have h5 : isKey key = true := by
      unfold numOf at h2
      cases hh : isKey key with
      | true => rfl
      | false => rw [hh] at h2; simp at h2
    obtain ⟨sp', k', x', a1, a2, a3, rfl, a5⟩ := isKey_is h5
    rw [pre_kind a1 a2 hs hk] at h4
    obtain ⟨rfl, rfl⟩ := of_decide_eq_true h4
    rw [a5] at h2
    obtain rfl : x' = x := Option.some.inj h2
    exact ⟨a3, h3⟩
  · rintro ⟨h1, h2⟩
    refine ⟨_, mem_keysL.2 ⟨h2, ?_⟩, num_key hs hk h1⟩
    rw [pre_kind hs hk hs hk]; simp
theorem numbers_nodup {s : S} (ho : s.off = false) (hsrt : Srt (now s)) {sp k : Int} (hs : okI sp) (hk : 1 ≤ k ∧ k ≤ 255) : (numbersS s sp k).Nodup := by
  unfold numbersS
  rw [if_pos ⟨hs.1, hk⟩]
  unfold nums
  rw [List.nodup_iff_pairwise_ne, List.pairwise_filterMap]
  unfold keysS
  rw [ho]
  simp only [Bool.false_eq_true, if_false]
  refine (keysL_nodup (pre := kindT sp k) hsrt).imp_of_mem ?_
  intro a b ha hb hab x hx y hy e
  subst e
  apply hab
  have one : ∀ c, c ∈ keysL (kindT sp k) (now s) → numOf c = some x → c = keyT sp k x := by
    intro c hc hx
    obtain ⟨h3, h4⟩ := mem_keysL.1 hc
    have h5 : isKey c = true := by
      unfold numOf at hx
      cases hh : isKey c with
      | true => rfl
      | false => rw [hh] at hx; simp at hx
    obtain ⟨sp', k', x', a1, a2, a3, rfl, a5⟩ := isKey_is h5
    rw [pre_kind a1 a2 hs hk] at h4
    obtain ⟨rfl, rfl⟩ := of_decide_eq_true h4
    rw [a5] at hx
    obtain rfl : x' = x := Option.some.inj hx
    rfl
  rw [one a ha hx, one b hb hy]
theorem numbers_none {s : S} {sp k : Int} (hk : ¬ (1 ≤ k ∧ k ≤ 255)) : numbersS s sp k = [] := by
  unfold numbersS
  rw [if_neg (fun h => hk h.2)]
theorem del_less {k : ByteArray} {r : List Rec} (h : (rget k r).isSome = true) : (del k r).length + 1 ≤ r.length := by
  obtain ⟨d, hd⟩ := Option.isSome_iff_exists.1 h
  have hm := get_mem hd
  unfold del
  have := (List.length_filter_lt_length_iff_exists (l := r) (p := fun p => !decide (p.1 = k))).2 ⟨(k, d), hm, by simp⟩
  omega
theorem cut_run {s : S} (ho : s.off = false) (ha : s.armed = 0) {k : ByteArray} (hk : 1 ≤ k.size ∧ k.size ≤ 64) (h : (rget k (now s)).isSome = true) : cutS s k = (0, addW s (cutW k)) := by
  have hr : refS s k = 0 := by unfold refS; rw [ho]; simp [hk]
  unfold cutS
  rw [if_neg (by simp [hr]), if_pos h]
  unfold spendS
  rw [if_pos (show (addW s ⟨true, k, ByteArray.empty⟩).armed = 0 from ha)]
  rfl
-- the state behind some cuts
structure Cuts (s s' : S) (cs : List ByteArray) (D : ByteArray → Prop) : Prop where
  eq : s' = { s with pend := s.pend ++ cs.map cutW }
  sz : ∀ c ∈ cs, c.size = 18
  len : cs.length + (now s').length ≤ (now s).length
  mem : ∀ p, p ∈ now s' ↔ p ∈ now s ∧ ¬ D p.1
  srt : Srt (now s')
theorem Cuts.refl {s : S} (h : Srt (now s)) : Cuts s s [] (fun _ => False) := ⟨by simp, (fun c hc => by cases hc), by simp, (fun p => by simp), h⟩
theorem Cuts.trans {a b c : S} {cs ds : List ByteArray} {D D' : ByteArray → Prop} (x : Cuts a b cs D) (y : Cuts b c ds D') : Cuts a c (cs ++ ds) (fun k => D k ∨ D' k) := by
  refine ⟨?_, ?_, ?_, ?_, y.srt⟩
  · rw [y.eq, x.eq]; simp
  · intro k hk
    rcases List.mem_append.1 hk with h | h
    · exact x.sz k h
    · exact y.sz k h
  · have := x.len; have := y.len; rw [List.length_append]; omega
  · intro p
    rw [y.mem, x.mem]
    constructor
    · rintro ⟨⟨h1, h2⟩, h3⟩; exact ⟨h1, fun h => h.elim h2 h3⟩
    · rintro ⟨h1, h2⟩; exact ⟨⟨h1, fun h => h2 (.inl h)⟩, fun h => h2 (.inr h)⟩
theorem Cuts.mono {a b : S} {cs : List ByteArray} {D D' : ByteArray → Prop} (x : Cuts a b cs D) (h : ∀ p ∈ now a, D p.1 ↔ D' p.1) : Cuts a b cs D' :=
  ⟨x.eq, x.sz, x.len, fun p => by rw [x.mem]; exact ⟨fun ⟨h1, h2⟩ => ⟨h1, fun g => h2 ((h p h1).2 g)⟩, fun ⟨h1, h2⟩ => ⟨h1, fun g => h2 ((h p h1).1 g)⟩⟩, x.srt⟩
theorem Cuts.one {s : S} (hsrt : Srt (now s)) {k : ByteArray} (hk : k.size = 18) (h : (rget k (now s)).isSome = true) : Cuts s (addW s (cutW k)) [k] (fun c => c = k) := by
  have hn : now (addW s (cutW k)) = del k (now s) := by rw [now_add]; rfl
  refine ⟨rfl, fun c hc => by rw [List.mem_singleton.1 hc]; exact hk, ?_, fun p => by rw [hn, mem_del], by rw [hn]; exact srt_del hsrt⟩
  rw [hn]
  have := del_less h
  simp only [List.length_singleton]
  omega
theorem Cuts.off {a b : S} {cs : List ByteArray} {D : ByteArray → Prop} (x : Cuts a b cs D) : b.off = a.off ∧ b.armed = a.armed ∧ b.cap = a.cap ∧ b.age = a.age ∧ b.dur = a.dur ∧ b.pend = a.pend ++ cs.map cutW := by
  rw [x.eq]; exact ⟨rfl, rfl, rfl, rfl, rfl, rfl⟩
theorem Cuts.some {a b : S} {cs : List ByteArray} {D : ByteArray → Prop} (x : Cuts a b cs D) {k : ByteArray} (h : (rget k (now a)).isSome = true) (hd : ¬ D k) : (rget k (now b)).isSome = true := by
  obtain ⟨d, h1⟩ := Option.isSome_iff_exists.1 h
  rw [(get_some x.srt).2 ((x.mem (k, d)).2 ⟨get_mem h1, hd⟩)]; rfl
theorem drop_run {sp k : Int} (hs : okI sp) (hk : 1 ≤ k ∧ k ≤ 255) (m : Nat) : ∀ (xs : List Int) (s : S), s.off = false → s.armed = 0 → Srt (now s) → xs.Nodup → (∀ x ∈ xs, okI x ∧ (rget (keyT sp k x) (now s)).isSome = true) →
    ∃ s' cs, dropL sp k m xs s = (0, s') ∧ Cuts s s' cs (fun c => ∃ x ∈ xs, c = keyT sp k x ∧ ¬ (k = 1 ∧ x < m)) := by
  intro xs
  induction xs with
  | nil => intro s _ _ hsrt _ _; exact ⟨s, [], rfl, (Cuts.refl hsrt).mono (fun p _ => by simp)⟩
  | cons x xs ih =>
    intro s ho ha hsrt hnd hall
    obtain ⟨h1, h2⟩ := List.nodup_cons.1 hnd
    rw [dropL]
    by_cases hkeep : k = 1 ∧ x < m
    · rw [if_pos hkeep]
      obtain ⟨s', cs, e, c⟩ := ih s ho ha hsrt h2 (fun y hy => hall y (by simp [hy]))
      refine ⟨s', cs, e, c.mono (fun p hp => ?_)⟩
      constructor
      · rintro ⟨y, hy, e, hn⟩; exact ⟨y, by simp [hy], e, hn⟩
      · rintro ⟨y, hy, e, hn⟩
        rcases List.mem_cons.1 hy with rfl | hy
        · exact absurd hkeep hn
        · exact ⟨y, hy, e, hn⟩
    · rw [if_neg hkeep]
      obtain ⟨hx, hg⟩ := hall x (by simp)
      have hb : bdropS s sp k x = (0, addW s (cutW (keyT sp k x))) := by
        unfold bdropS
        rw [if_pos ⟨hs.1, hk.1, hk.2, hx.1⟩]
        exact cut_run ho ha (by rw [keyT_size]; omega) hg
      rw [hb, if_pos rfl]
      have c1 := Cuts.one hsrt (keyT_size sp k x) hg
      obtain ⟨s', cs, e, c⟩ := ih (addW s (cutW (keyT sp k x))) ho ha c1.srt h2 (fun y hy => ⟨(hall y (by simp [hy])).1, c1.some (hall y (by simp [hy])).2 (fun e => by
        have hy1 := (hall y (by simp [hy])).1
        have : y = x := by
          by_cases hyx : y = x
          · exact hyx
          · exact absurd e (keys_apart sp k y sp k x hs.1 hs.2 (by omega) hk.2 hy1.1 hy1.2 hs.1 hs.2 (by omega) hk.2 hx.1 hx.2 (fun h => hyx h.2.2))
        subst this
        exact h1 hy)⟩)
      refine ⟨s', _, e, (c1.trans c).mono (fun p hp => ?_)⟩
      constructor
      · rintro (e | ⟨y, hy, e, hn⟩)
        · exact ⟨x, by simp, e, hkeep⟩
        · exact ⟨y, by simp [hy], e, hn⟩
      · rintro ⟨y, hy, e3, hn⟩
        rcases List.mem_cons.1 hy with rfl | hy
        · exact .inl e3
        · exact .inr ⟨y, hy, e3, hn⟩
def Dr (sp : Int) (m : Nat) (c : ByteArray) : Prop := ∃ k x, (1 ≤ k ∧ k ≤ 255) ∧ okI x ∧ c = keyT sp k x ∧ ¬ (k = 1 ∧ x < (m : Int))
theorem purge_run0 {sp : Int} (hs : okI sp) (m : Nat) : ∀ (ks : List Int) (s : S), s.off = false → s.armed = 0 → Srt (now s) →
    ∃ s' cs, purgeL sp m ks s = (0, s') ∧ Cuts s s' cs (fun c => ∃ k ∈ ks, ∃ x, (1 ≤ k ∧ k ≤ 255) ∧ okI x ∧ c = keyT sp k x ∧ ¬ (k = 1 ∧ x < (m : Int))) := by
  intro ks
  induction ks with
  | nil => intro s _ _ hsrt; exact ⟨s, [], rfl, (Cuts.refl hsrt).mono (fun p _ => by simp)⟩
  | cons k ks ih =>
    intro s ho ha hsrt
    rw [purgeL]
    have one : ∃ s' cs, dropL sp k m (numbersS s sp k) s = (0, s') ∧ Cuts s s' cs (fun c => ∃ x, (1 ≤ k ∧ k ≤ 255) ∧ okI x ∧ c = keyT sp k x ∧ ¬ (k = 1 ∧ x < (m : Int))) := by
      by_cases hk : 1 ≤ k ∧ k ≤ 255
      · obtain ⟨s', cs, e, c⟩ := drop_run hs hk m (numbersS s sp k) s ho ha hsrt (numbers_nodup ho hsrt hs hk) (fun x hx => (mem_numbers ho hs hk).1 hx)
        refine ⟨s', cs, e, c.mono (fun p hp => ?_)⟩
        constructor
        · rintro ⟨x, hx, e, hn⟩; exact ⟨x, hk, ((mem_numbers ho hs hk).1 hx).1, e, hn⟩
        · rintro ⟨x, _, hx, e, hn⟩
          refine ⟨x, (mem_numbers ho hs hk).2 ⟨hx, ?_⟩, e, hn⟩
          rw [← e, (get_some hsrt).2 (show (p.1, p.2) ∈ now s from hp)]; rfl
      · rw [numbers_none hk]
        exact ⟨s, [], rfl, (Cuts.refl hsrt).mono (fun p _ => by
          constructor
          · intro h; cases h
          · rintro ⟨x, h, _⟩; exact hk h)⟩
    obtain ⟨s1, c1, e1, C1⟩ := one
    rw [e1, if_pos rfl]
    have f := C1.off
    obtain ⟨s2, c2, e2, C2⟩ := ih s1 (f.1.trans ho) (f.2.1.trans ha) C1.srt
    refine ⟨s2, _, e2, (C1.trans C2).mono (fun p hp => ?_)⟩
    constructor
    · rintro (⟨x, h⟩ | ⟨k', hk', h⟩)
      · exact ⟨k, by simp, x, h⟩
      · exact ⟨k', by simp [hk'], h⟩
    · rintro ⟨k', hk', x, h⟩
      rcases List.mem_cons.1 hk' with rfl | hk'
      · exact .inl ⟨x, h⟩
      · exact .inr ⟨k', hk', x, h⟩
theorem purge_run {sp : Int} (hs : okI sp) (m : Nat) {s : S} (ho : s.off = false) (ha : s.armed = 0) (hsrt : Srt (now s)) : ∃ s' cs, purgeS s sp m = (0, s') ∧ Cuts s s' cs (Dr sp m) := by
  obtain ⟨s', cs, e, c⟩ := purge_run0 hs m (kindsS s sp) s ho ha hsrt
  refine ⟨s', cs, e, c.mono (fun p hp => ?_)⟩
  constructor
  · rintro ⟨k, _, x, h⟩; exact ⟨k, x, h⟩
  · rintro ⟨k, x, h1, h2, h3, h4⟩
    refine ⟨k, ?_, x, h1, h2, h3, h4⟩
    unfold kindsS
    rw [mem_compact]
    unfold kindL
    rw [List.mem_filterMap]
    refine ⟨p.1, ?_, ?_⟩
    · unfold keysS
      rw [ho]
      simp only [Bool.false_eq_true, if_false]
      refine mem_keysL.2 ⟨by rw [(get_some hsrt).2 (show (p.1, p.2) ∈ now s from hp)]; rfl, ?_⟩
      rw [h3, pre_space hs hs]; simp
    · rw [h3, if_pos (keyT_size _ _ _)]
      have := keyT_kind sp k x (by omega) h1.2
      rw [beR_one] at this
      rw [this]
-- of leaves alone
theorem dr_leaf {sp : Int} (hs : okI sp) {m i : Nat} (hi : okI (i : Int)) : Dr sp m (keyT sp 1 i) ↔ m ≤ i := by
  constructor
  · rintro ⟨k, x, hk, hx, e, hn⟩
    by_cases h : k = 1 ∧ x = i
    · obtain ⟨rfl, rfl⟩ := h
      have : ¬ ((i : Int) < m) := fun g => hn ⟨rfl, g⟩
      omega
    · exact absurd e (keys_apart sp 1 i sp k x hs.1 hs.2 (by omega) (by omega) hi.1 hi.2 hs.1 hs.2 (by omega) hk.2 hx.1 hx.2 (fun g => h ⟨g.2.1.symm, g.2.2.symm⟩))
  · intro h
    exact ⟨1, i, one_ok, hi, rfl, fun g => by omega⟩
theorem asc_split (ps : PL) (n : Nat) (ha : Asc ps) (hn : ∀ p ∈ ps, n ≤ p.1) : ∃ l zs, ps = enm n l ++ zs ∧ ∀ p ∈ zs, n + l.length < p.1 := by
  induction ps generalizing n with
  | nil => exact ⟨[], [], rfl, fun p hp => by cases hp⟩
  | cons p ps ih =>
    obtain ⟨h1, h2⟩ := List.pairwise_cons.1 ha
    by_cases e : p.1 = n
    · obtain ⟨l, zs, e1, e2⟩ := ih (n + 1) h2 (fun q hq => by have : p.1 < q.1 := h1 q hq; omega)
      refine ⟨p.2 :: l, zs, ?_, fun q hq => ?_⟩
      · rw [enm, List.cons_append, ← e1, ← e]
      · have := e2 q hq; simp only [List.length_cons]; omega
    · refine ⟨[], p :: ps, rfl, fun q hq => ?_⟩
      have hp := hn p (by simp)
      rcases List.mem_cons.1 hq with rfl | hq
      · simp only [List.length_nil]; omega
      · have : p.1 < q.1 := h1 q hq
        simp only [List.length_nil]; omega
theorem asc_sub {ps qs : PL} (h : Asc qs) (hs : ps.Sublist qs) : Asc ps := List.Pairwise.sublist hs h
-- what Open finds of leaves, some of them lost
theorem st_prs {s : S} {sp : Int} (ho : s.off = false) (hs : okI sp) {l : List ByteArray} {zs : PL} (ha : Asc (enm 0 l ++ zs)) (hb : Bnd (enm 0 l ++ zs)) (hn : now s = prs sp (enm 0 l ++ zs)) (hz : ∀ p ∈ zs, l.length < p.1) (hlen : l.length < 4611686018427387904) : IsSt s sp l := by
  have key : ∀ i : Nat, i ≤ l.length → ∀ x, lf s sp i = some x ↔ l[i]? = some x := by
    intro i hi x
    rw [lf_prs ho hs ha hb hn ⟨by omega, by omega⟩, List.mem_append, mem_enm]
    simp only [Nat.zero_le, true_and, Nat.sub_zero]
    constructor
    · rintro (h | h)
      · exact h
      · have : l.length < i := hz _ h
        omega
    · exact .inl
  constructor
  · intro i hi
    obtain ⟨x, hx⟩ : ∃ x, l[i]? = some x := ⟨_, List.getElem?_eq_getElem hi⟩
    rw [hx]; exact (key i (by omega) x).2 hx
  · cases h : lf s sp l.length with
    | none => rfl
    | some x =>
      have := (key l.length (Nat.le_refl _) x).1 h
      rw [List.getElem?_eq_none (Nat.le_refl _)] at this
      cases this
theorem purge_prs {s : S} {sp : Int} (ho : s.off = false) (harm : s.armed = 0) (hs : okI sp) {l : List ByteArray} {zs : PL} (ha : Asc (enm 0 l ++ zs)) (hb : Bnd (enm 0 l ++ zs)) (hn : now s = prs sp (enm 0 l ++ zs)) (hz : ∀ p ∈ zs, l.length < p.1) :
    ∃ s' cs, purgeS s sp l.length = (0, s') ∧ s' = { s with pend := s.pend ++ cs.map cutW } ∧ cs.length ≤ (now s).length ∧ (∀ c ∈ cs, c.size = 18) ∧ now s' = prs sp (enm 0 l) ∧ (zs = [] → cs = []) := by
  obtain ⟨b1, b2⟩ := bnd_app.1 hb
  have hsrt : Srt (now s) := by rw [hn]; exact srt_prs hs ha hb
  obtain ⟨s', cs, e, c⟩ := purge_run hs l.length ho harm hsrt
  have hn' : now s' = prs sp (enm 0 l) := by
    refine ext_get c.srt (srt_prs hs (asc_enm _ _) b1) (fun k => ?_)
    have : ∀ d, rget k (now s') = some d ↔ rget k (prs sp (enm 0 l)) = some d := by
      intro d
      rw [get_some c.srt, get_some (srt_prs hs (asc_enm _ _) b1), c.mem, hn]
      unfold prs
      rw [List.map_append, List.mem_append]
      constructor
      · rintro ⟨h | h, hd⟩
        · exact h
        · obtain ⟨p, hp, e⟩ := List.mem_map.1 h
          exfalso
          apply hd
          unfold rc at e
          injection e with e1 e2
          rw [← e1]
          exact (dr_leaf hs (b2.ok hp)).2 (by have := hz p hp; omega)
      · intro h
        refine ⟨.inl h, fun hd => ?_⟩
        obtain ⟨p, hp, e⟩ := List.mem_map.1 h
        unfold rc at e
        injection e with e1 e2
        rw [← e1] at hd
        have h1 := (dr_leaf hs (b1.ok hp)).1 hd
        have := enm_low p hp
        omega
    cases h1 : rget k (now s') with
    | some d => exact ((this d).1 h1).symm
    | none =>
      cases h2 : rget k (prs sp (enm 0 l)) with
      | none => rfl
      | some d => rw [(this d).2 h2] at h1; cases h1
  refine ⟨s', cs, e, c.eq, by have := c.len; omega, c.sz, hn', ?_⟩
  intro hz0
  have h1 := c.len
  rw [hn', hn, hz0, List.append_nil] at h1
  exact List.length_eq_zero_iff.1 (by omega)
end Go.Proofs.YtmindflfjocjlaaGreat.ec

namespace Go.Proofs.YtmindflfjocjlaaGreat.je
open Go.RowKit Go.PlainAid Go.Maps Go.Shelf
open Go.Proofs.YtmindflfjocjlaaGreat.kp Go.Proofs.YtmindflfjocjlaaGreat.ka Go.Proofs.YtmindflfjocjlaaGreat.ya Go.Proofs.YtmindflfjocjlaaGreat.yb Go.Proofs.YtmindflfjocjlaaGreat.yc Go.Proofs.YtmindflfjocjlaaGreat.yd Go.Proofs.YtmindflfjocjlaaGreat.ye Go.Proofs.YtmindflfjocjlaaGreat.yf Go.Proofs.YtmindflfjocjlaaGreat.yi Go.Proofs.YtmindflfjocjlaaGreat.yk Go.Proofs.YtmindflfjocjlaaGreat.yl Go.Proofs.YtmindflfjocjlaaGreat.ym
open Go.Proofs.YtmindflfjocjlaaGreat.tqa Go.Proofs.YtmindflfjocjlaaGreat.tba Go.Proofs.YtmindflfjocjlaaGreat.tbb Go.Proofs.YtmindflfjocjlaaGreat.tbc Go.Proofs.YtmindflfjocjlaaGreat.tbd Go.Proofs.YtmindflfjocjlaaGreat.tbe
open Go.Proofs.YtmindflfjocjlaaGreat.tqb (over)
open Go.Proofs.YtmindflfjocjlaaGreat.tda (keyR keyNoR)
open Go.Proofs.YtmindflfjocjlaaGreat.tdb (frameR frameNoR frameBigR)
open Go.Proofs.YtmindflfjocjlaaGreat.tdc (parseR)
open Go.Proofs.YtmindflfjocjlaaGreat.ec (bdropS)
open Go.Proofs.YtmindflfjocjlaaGreat.xc (Ds Rd Dt)
open Go.Proofs.YtmindflfjocjlaaGreat.xf (putD cutD)
set_option linter.unusedVariables false
set_option linter.unusedSimpArgs false
-- the document's Put, Get, Drop over its own store: what the program's answer, by the same state
section
variable {g : Nat} {dv wv vv : Value} {s s' : S} {w w' : World}
theorem rd_pre {w1 : World} (b : Below w.heap.size w w1) (r : Rd 0 g wv s' w1 w') : Rd 0 g wv s' w w' := by
  obtain ⟨d, x, v, h, k, n⟩ := r
  exact ⟨d, x, v, h, (Kp.of_below b).trans k, fun j hj => (n j hj).imp id (fun z => Nat.le_trans b.size z)⟩
set_option maxHeartbeats 1600000 in
theorem putR (sp k n : Int) (p : ByteArray) (h : Ds 0 g dv wv vv s w) (h1 : sp ≤ 9223372036854775807) (n1 : n ≤ 9223372036854775807) (hl : s.dur.length + s.pend.length + 1 < 3518437208883) :
    Calls Tryz.prog 19 #[.pointer (some ⟨g, 0, none⟩), .int .i64 sp, .int .i64 k, .int .i64 n, .string p] w fun e w' => e = .returned (.int .i64 (bputS s sp k n p).1) ∧ Rd 0 g wv (bputS s sp k n p).2 w w' := by
  have H : Hid (Ds 0 g dv wv vv s w) := h
  have HB : Hid (Below w.heap.size w w) := Below.refl _ _
  unfold bputS
  by_cases hk : 0 ≤ sp ∧ 1 ≤ k ∧ k ≤ 255 ∧ 0 ≤ n
  · rw [if_pos hk]
    have CK : Hid (Calls _ _ _ _ _) := keyR sp k n w hk.1 h1 hk.2.1 hk.2.2.1 hk.2.2.2 n1
    by_cases hp : p.size ≤ 524288
    · rw [if_pos hp]
      have CF : Hid (∀ w1, Calls _ _ _ _ _) := fun w1 => frameR k n p w1 hk.2.1 hk.2.2.1 hk.2.2.2 n1 hp
      have hfs := frameT_size k n p
      have CP : Hid (∀ w1, Below w.heap.size w w1 → Calls _ _ _ _ _) := fun w1 b => putD (keyT sp k n) (frameT k n p) (h.later b) (Nat.zero_le _) hl (by omega)
      generalize keyT sp k n = K at *
      generalize frameT k n p = F at *
      obtain ⟨R, HR⟩ : ∃ R, Hid (putS s K F = R) := ⟨_, rfl⟩
      rw [HR.out] at CP ⊢
      clear h hk hp hl h1 n1 hfs
      go_enter Tryz.func19, Tryz.ntmps19
      go_wp2_with (first | (go_at_call 29; refine CK.out.mono ?_; rintro _ w1 ⟨rfl, b1⟩; have B1 : Hid (Below w.heap.size w w1) := b1; clear b1) | (go_at_call 28; refine (CF.out _).mono ?_; rintro _ w2 ⟨rfl, b2⟩; have B2 : Hid (Below w.heap.size w w2) := over B1.out b2; clear b2) | (go_at_call 27; refine (CP.out _ B2.out).mono ?_; rintro _ w3 ⟨rfl, r3⟩; have R3 : Hid (Rd 0 g wv R.2 w2 w3) := r3; clear r3) | go_in)
      go_ret
      exact ⟨rfl, rd_pre B2.out R3.out⟩
    · rw [if_neg hp]
      have CF : Hid (∀ w1, Calls _ _ _ _ _) := fun w1 => frameBigR k n p w1 hk.2.1 hk.2.2.1 hk.2.2.2 (by omega)
      generalize keyT sp k n = K at *
      clear h hk hp hl h1 n1
      go_enter Tryz.func19, Tryz.ntmps19
      go_wp2_with (first | (go_at_call 29; refine CK.out.mono ?_; rintro _ w1 ⟨rfl, b1⟩; have B1 : Hid (Below w.heap.size w w1) := b1; clear b1) | (go_at_call 28; refine (CF.out _).mono ?_; rintro _ _ ⟨rfl, hw⟩; rw [hw]; clear hw) | go_in)
      go_ret
      exact ⟨rfl, xc.Rd.refl H.out B1.out⟩
  · rw [if_neg hk]
    have CK : Hid (Calls _ _ _ _ _) := keyNoR sp k n w hk
    clear h hk hl h1 n1
    go_enter Tryz.func19, Tryz.ntmps19
    go_wp2_with (first | (go_at_call 29; refine CK.out.mono ?_; rintro _ _ ⟨rfl, hw⟩; rw [hw]; clear hw) | go_in)
    go_ret
    exact ⟨rfl, xc.Rd.refl H.out HB.out⟩
set_option maxHeartbeats 1600000 in
theorem dropR (sp k n : Int) (h : Ds 0 g dv wv vv s w) (h1 : sp ≤ 9223372036854775807) (n1 : n ≤ 9223372036854775807) (hl : s.dur.length + s.pend.length + 1 < 3518437208883) :
    Calls Tryz.prog 23 #[.pointer (some ⟨g, 0, none⟩), .int .i64 sp, .int .i64 k, .int .i64 n] w fun e w' => e = .returned (.int .i64 (bdropS s sp k n).1) ∧ Rd 0 g wv (bdropS s sp k n).2 w w' := by
  have H : Hid (Ds 0 g dv wv vv s w) := h
  have HB : Hid (Below w.heap.size w w) := Below.refl _ _
  unfold bdropS
  by_cases hk : 0 ≤ sp ∧ 1 ≤ k ∧ k ≤ 255 ∧ 0 ≤ n
  · rw [if_pos hk]
    have CK : Hid (Calls _ _ _ _ _) := keyR sp k n w hk.1 h1 hk.2.1 hk.2.2.1 hk.2.2.2 n1
    have CP : Hid (∀ w1, Below w.heap.size w w1 → Calls _ _ _ _ _) := fun w1 b => cutD (keyT sp k n) (h.later b) (Nat.zero_le _) hl
    generalize keyT sp k n = K at *
    obtain ⟨R, HR⟩ : ∃ R, Hid (cutS s K = R) := ⟨_, rfl⟩
    rw [HR.out] at CP ⊢
    clear h hk hl h1 n1
    go_enter Tryz.func23, Tryz.ntmps23
    go_wp2_with (first | (go_at_call 29; refine CK.out.mono ?_; rintro _ w1 ⟨rfl, b1⟩; have B1 : Hid (Below w.heap.size w w1) := b1; clear b1) | (go_at_call 54; refine (CP.out _ B1.out).mono ?_; rintro _ w3 ⟨rfl, r3⟩; have R3 : Hid (Rd 0 g wv R.2 w1 w3) := r3; clear r3) | go_in)
    go_ret
    exact ⟨rfl, rd_pre B1.out R3.out⟩
  · rw [if_neg hk]
    have CK : Hid (Calls _ _ _ _ _) := keyNoR sp k n w hk
    clear h hk hl h1 n1
    go_enter Tryz.func23, Tryz.ntmps23
    go_wp2_with (first | (go_at_call 29; refine CK.out.mono ?_; rintro _ _ ⟨rfl, hw⟩; rw [hw]; clear hw) | go_in)
    go_ret
    exact ⟨rfl, xc.Rd.refl H.out HB.out⟩
set_option maxHeartbeats 3200000 in
theorem getR (sp k n : Int) (h : Ds 0 g dv wv vv s w) (h1 : sp ≤ 9223372036854775807) (n1 : n ≤ 9223372036854775807) :
    Calls Tryz.prog 21 #[.pointer (some ⟨g, 0, none⟩), .int .i64 sp, .int .i64 k, .int .i64 n] w fun e w' => e = .returned (.tuple #[.string (bgetS s sp k n).1, .int .i64 (bgetS s sp k n).2]) ∧ Below w.heap.size w w' := by
  have HB : Hid (Below w.heap.size w w) := Below.refl _ _
  unfold bgetS
  by_cases hk : 0 ≤ sp ∧ 1 ≤ k ∧ k ≤ 255 ∧ 0 ≤ n
  · rw [if_pos hk]
    have CK : Hid (Calls _ _ _ _ _) := keyR sp k n w hk.1 h1 hk.2.1 hk.2.2.1 hk.2.2.2 n1
    have CG : Hid (∀ w1, Below w.heap.size w w1 → Calls _ _ _ _ _) := fun w1 b => xc.getD (keyT sp k n) (h.later b)
    have hz := get_size h.ok (keyT sp k n)
    generalize keyT sp k n = K at *
    obtain ⟨x, HX⟩ : ∃ x, Hid (getS s K = x) := ⟨_, rfl⟩
    rw [HX.out] at CG hz ⊢
    obtain ⟨t, ee⟩ := x
    simp only at CG hz
    have CP : Hid (∀ w1, Calls _ _ _ _ _) := fun w1 => parseR t w1 (by omega)
    unfold bgetV
    simp only
    clear h hk h1 n1 hz HX
    by_cases he : ee = 0
    · subst he
      rw [if_pos rfl]
      obtain ⟨pE, HPE⟩ : ∃ x, Hid (parseE t = x) := ⟨_, rfl⟩
      obtain ⟨pK, HPK⟩ : ∃ x, Hid (parseK t = x) := ⟨_, rfl⟩
      obtain ⟨pN, HPN⟩ : ∃ x, Hid (parseN t = x) := ⟨_, rfl⟩
      obtain ⟨pP, HPP⟩ : ∃ x, Hid (parseP t = x) := ⟨_, rfl⟩
      rw [HPE.out, HPK.out, HPN.out, HPP.out] at CP
      rw [HPE.out, HPK.out, HPN.out, HPP.out]
      by_cases e1 : pE = 0
      · subst e1
        by_cases e2 : pK = k
        · subst e2
          by_cases e3 : pN = n
          · subst e3
            rw [if_pos ⟨rfl, rfl, rfl⟩]
            go_enter Tryz.func21, Tryz.ntmps21
            go_wp2_with (first | (go_at_call 29; refine CK.out.mono ?_; rintro _ w1 ⟨rfl, b1⟩; have B1 : Hid (Below w.heap.size w w1) := b1; clear b1) | (go_at_call 51; refine (CG.out _ B1.out).mono ?_; rintro _ _ ⟨rfl, hw⟩; rw [hw]; clear hw) | (go_at_call 52; refine (CP.out _).mono ?_; rintro _ w2 ⟨rfl, b2⟩; have B2 : Hid (Below w.heap.size w w2) := over B1.out b2; clear b2) | go_in)
            go_ret2
            exact ⟨rfl, B2.out⟩
          · have q3 : (pN != n) = true := by rw [bne_iff_ne]; exact e3
            rw [if_neg (fun z => e3 z.2.2)]
            clear e3
            go_enter Tryz.func21, Tryz.ntmps21
            go_wp2_with (first | (go_at_call 29; refine CK.out.mono ?_; rintro _ w1 ⟨rfl, b1⟩; have B1 : Hid (Below w.heap.size w w1) := b1; clear b1) | (go_at_call 51; refine (CG.out _ B1.out).mono ?_; rintro _ _ ⟨rfl, hw⟩; rw [hw]; clear hw) | (go_at_call 52; refine (CP.out _).mono ?_; rintro _ w2 ⟨rfl, b2⟩; have B2 : Hid (Below w.heap.size w w2) := over B1.out b2; clear b2) | go_in)
            go_ret2
            exact ⟨rfl, B2.out⟩
        · have q2 : (pK != k) = true := by rw [bne_iff_ne]; exact e2
          rw [if_neg (fun z => e2 z.2.1)]
          clear e2
          go_enter Tryz.func21, Tryz.ntmps21
          go_wp2_with (first | (go_at_call 29; refine CK.out.mono ?_; rintro _ w1 ⟨rfl, b1⟩; have B1 : Hid (Below w.heap.size w w1) := b1; clear b1) | (go_at_call 51; refine (CG.out _ B1.out).mono ?_; rintro _ _ ⟨rfl, hw⟩; rw [hw]; clear hw) | (go_at_call 52; refine (CP.out _).mono ?_; rintro _ w2 ⟨rfl, b2⟩; have B2 : Hid (Below w.heap.size w w2) := over B1.out b2; clear b2) | go_in)
          go_ret2
          exact ⟨rfl, B2.out⟩
      · have q1 : (pE != 0) = true := by rw [bne_iff_ne]; exact e1
        rw [if_neg (fun z => e1 z.1)]
        clear e1
        go_enter Tryz.func21, Tryz.ntmps21
        go_wp2_with (first | (go_at_call 29; refine CK.out.mono ?_; rintro _ w1 ⟨rfl, b1⟩; have B1 : Hid (Below w.heap.size w w1) := b1; clear b1) | (go_at_call 51; refine (CG.out _ B1.out).mono ?_; rintro _ _ ⟨rfl, hw⟩; rw [hw]; clear hw) | (go_at_call 52; refine (CP.out _).mono ?_; rintro _ w2 ⟨rfl, b2⟩; have B2 : Hid (Below w.heap.size w w2) := over B1.out b2; clear b2) | go_in)
        go_ret2
        exact ⟨rfl, B2.out⟩
    · have q0 : (ee != 0) = true := by rw [bne_iff_ne]; exact he
      rw [if_neg he]
      clear he
      go_enter Tryz.func21, Tryz.ntmps21
      go_wp2_with (first | (go_at_call 29; refine CK.out.mono ?_; rintro _ w1 ⟨rfl, b1⟩; have B1 : Hid (Below w.heap.size w w1) := b1; clear b1) | (go_at_call 51; refine (CG.out _ B1.out).mono ?_; rintro _ _ ⟨rfl, hw⟩; rw [hw]; clear hw) | go_in)
      go_ret2
      exact ⟨rfl, B1.out⟩
  · rw [if_neg hk]
    have CK : Hid (Calls _ _ _ _ _) := keyNoR sp k n w hk
    clear h hk h1 n1
    go_enter Tryz.func21, Tryz.ntmps21
    go_wp2_with (first | (go_at_call 29; refine CK.out.mono ?_; rintro _ _ ⟨rfl, hw⟩; rw [hw]; clear hw) | go_in)
    go_ret2
    exact ⟨rfl, HB.out⟩
end
end Go.Proofs.YtmindflfjocjlaaGreat.je
