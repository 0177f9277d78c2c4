import Derived.Test.YtgioekepoebibaaBe
import Derived.Test.YtgioekepoebibaaLo
namespace Go.Proofs.Ytgioekepoebibaa.bf
open Go.RowKit Go.PlainAid Go.Maps Go.Shelf
open Go.Proofs.Ytgioekepoebibaa.ya Go.Proofs.Ytgioekepoebibaa.yc Go.Proofs.Ytgioekepoebibaa.yd Go.Proofs.Ytgioekepoebibaa.ye Go.Proofs.Ytgioekepoebibaa.yf Go.Proofs.Ytgioekepoebibaa.yi Go.Proofs.Ytgioekepoebibaa.yk
open Go.Proofs.Ytgioekepoebibaa.qa Go.Proofs.Ytgioekepoebibaa.ba Go.Proofs.Ytgioekepoebibaa.bb Go.Proofs.Ytgioekepoebibaa.bc Go.Proofs.Ytgioekepoebibaa.bd Go.Proofs.Ytgioekepoebibaa.be
open Go.Proofs.Ytgioekepoebibaa.nb (str str_size)
open Go.Proofs.Ytgioekepoebibaa.pa (lowB lowB_length)
open Go.Proofs.Ytgioekepoebibaa.qb (kindT kindT_size spaceT spaceT_size key_is)
open Go.Proofs.Ytgioekepoebibaa.qc (key_less key_same)
open Go.Proofs.Ytgioekepoebibaa.lo (keys_apart bget_frame)
set_option linter.unusedVariables false
set_option linter.unusedSimpArgs false
theorem less_is (l m : List UInt8) : Op.bytesLess l m = bytesBefore l m := by
  induction l generalizing m with
  | nil => cases m <;> rfl
  | cons x l ih =>
    cases m with
    | nil => rfl
    | cons y m => show (decide (x < y) || (x == y && Op.bytesLess l m)) = _; rw [ih]; rfl
def okI (x : Int) : Prop := 0 ≤ x ∧ x ≤ 9223372036854775807
theorem key_lt {t k x y : Int} (ht : okI t) (hk : 1 ≤ k ∧ k ≤ 255) (hx : okI x) (hy : okI y) : lt (keyT t k x) (keyT t k y) = decide (x < y) := by
  have h := key_less t k x t k y ht.1 ht.2 (by omega) hk.2 hx.1 hx.2 ht.1 ht.2 (by omega) hk.2 hy.1 hy.2
  rw [less_is, ByteArray.toList_eq, ByteArray.toList_eq] at h
  unfold lt bs
  rw [h, decide_eq_decide]
  omega
-- what keys begin with
theorem app_bs (a b : ByteArray) : bs (a ++ b) = bs a ++ bs b := by unfold bs; rw [ByteArray.data_append, Array.toList_append]
theorem prefix_of (p q a : ByteArray) (h : p.size = q.size) : Lib.hasPrefix (bs (p ++ a)) (bs q) = decide (p = q) := by
  unfold Lib.hasPrefix
  rw [app_bs]
  have hl : (bs p).length = (bs q).length := by rw [bs_len, bs_len]; exact h
  by_cases e : p = q
  · subst e
    rw [decide_eq_true rfl]
    exact List.isPrefixOf_iff_prefix.2 (List.prefix_append _ _)
  · rw [decide_eq_false e]
    cases hh : (bs q).isPrefixOf (bs p ++ bs a) with
    | false => rfl
    | true =>
      obtain ⟨z, hz⟩ := List.isPrefixOf_iff_prefix.1 hh
      have := (List.append_inj hz hl.symm).1
      exact absurd (bs_inj this).symm e
theorem kind_inj {t l s k : Int} (ht : okI t) (hl : 1 ≤ l ∧ l ≤ 255) (hs : okI s) (hk : 1 ≤ k ∧ k ≤ 255) (h : kindT t l = kindT s k) : t = s ∧ l = k := by
  have e : keyT t l 0 = keyT s k 0 := by rw [key_is, key_is, h]
  by_cases hh : t = s ∧ l = k
  · exact hh
  · exact absurd e (keys_apart t l 0 s k 0 ht.1 ht.2 (by omega) hl.2 (by omega) (by omega) hs.1 hs.2 (by omega) hk.2 (by omega) (by omega) (fun h2 => hh ⟨h2.1, h2.2.1⟩))
theorem kind_is (s k : Int) : kindT s k = spaceT s ++ str [k] := by
  rw [spaceT, str_app, kindT]; rfl
theorem space_inj {t s : Int} (ht : okI t) (hs : okI s) (h : spaceT t = spaceT s) : t = s :=
  (kind_inj ht (l := 1) (by omega) hs (k := 1) (by omega) (by rw [kind_is, kind_is, h])).1
theorem pre_kind {t l m s k : Int} (ht : okI t) (hl : 1 ≤ l ∧ l ≤ 255) (hs : okI s) (hk : 1 ≤ k ∧ k ≤ 255) : Lib.hasPrefix (bs (keyT t l m)) (bs (kindT s k)) = decide (t = s ∧ l = k) := by
  rw [key_is, prefix_of _ _ _ (by rw [kindT_size, kindT_size]), decide_eq_decide]
  exact ⟨kind_inj ht hl hs hk, fun h => by rw [h.1, h.2]⟩
theorem pre_space {t l m s : Int} (ht : okI t) (hs : okI s) : Lib.hasPrefix (bs (keyT t l m)) (bs (spaceT s)) = decide (t = s) := by
  rw [key_is, kind_is, app_assoc, prefix_of _ _ _ (by rw [spaceT_size, spaceT_size]), decide_eq_decide]
  exact ⟨space_inj ht hs, fun h => by rw [h]⟩
-- a space and a kind of it whose records are told
structure Half (k t : Int) (d : ByteArray) (xs : List Int) (R : List Rec) : Prop where
  srt : Srt R
  all : ∀ p ∈ R, Lib.hasPrefix (bs p.1) (bs (kindT t k)) = true → ∃ x ∈ xs, p = (keyT t k x, frameT k x d)
  has : ∀ x ∈ xs, (keyT t k x, frameT k x d) ∈ R
theorem num_key {t k x : Int} (ht : okI t) (hk : 1 ≤ k ∧ k ≤ 255) (hx : okI x) : numOf (keyT t k x) = some x := by
  obtain ⟨_, _, h3, h4⟩ := isKey_of t k x ht.1 ht.2 hk.1 hk.2 hx.1 hx.2
  unfold numOf
  rw [if_pos h4, h3]
theorem half_keys {k t : Int} {d : ByteArray} {xs : List Int} {R : List Rec} (h : Half k t d xs R) (ht : okI t) (hk : 1 ≤ k ∧ k ≤ 255) (hxs : ∀ x ∈ xs, okI x) : ∀ key, key ∈ keysL (kindT t k) R ↔ ∃ x ∈ xs, key = keyT t k x := by
  intro key
  unfold keysL
  rw [List.mem_map]
  constructor
  · rintro ⟨p, hp, rfl⟩
    obtain ⟨h1, h2⟩ := List.mem_filter.1 hp
    obtain ⟨x, hx, rfl⟩ := h.all p h1 h2
    exact ⟨x, hx, rfl⟩
  · rintro ⟨x, hx, rfl⟩
    exact ⟨_, List.mem_filter.2 ⟨h.has x hx, by rw [pre_kind ht hk ht hk]; simp⟩, rfl⟩
theorem half_mem {k t : Int} {d : ByteArray} {xs : List Int} {R : List Rec} (h : Half k t d xs R) (ht : okI t) (hk : 1 ≤ k ∧ k ≤ 255) (hxs : ∀ x ∈ xs, okI x) : ∀ y, y ∈ nums (keysL (kindT t k) R) ↔ y ∈ xs := by
  intro y
  unfold nums
  rw [List.mem_filterMap]
  constructor
  · rintro ⟨key, h1, h2⟩
    obtain ⟨x, hx, rfl⟩ := (half_keys h ht hk hxs key).1 h1
    rw [num_key ht hk (hxs x hx)] at h2
    rw [← Option.some.inj h2]; exact hx
  · intro hy
    exact ⟨_, (half_keys h ht hk hxs _).2 ⟨y, hy, rfl⟩, num_key ht hk (hxs y hy)⟩
theorem half_rise {k t : Int} {d : ByteArray} {xs : List Int} {R : List Rec} (h : Half k t d xs R) (ht : okI t) (hk : 1 ≤ k ∧ k ≤ 255) (hxs : ∀ x ∈ xs, okI x) : (nums (keysL (kindT t k) R)).Pairwise (· < ·) := by
  unfold nums
  rw [List.pairwise_filterMap]
  refine (keysL_srt (pre := kindT t k) h.srt).imp_of_mem ?_
  intro a b ha hb hlt x hx y hy
  obtain ⟨x', hx', rfl⟩ := (half_keys h ht hk hxs a).1 ha
  obtain ⟨y', hy', rfl⟩ := (half_keys h ht hk hxs b).1 hb
  rw [num_key ht hk (hxs x' hx')] at hx
  rw [num_key ht hk (hxs y' hy')] at hy
  rw [key_lt ht hk (hxs x' hx') (hxs y' hy')] at hlt
  rw [← Option.some.inj hx, ← Option.some.inj hy]
  exact of_decide_eq_true hlt
theorem rise_unique {a b : List Int} (ha : a.Pairwise (· < ·)) (hb : b.Pairwise (· < ·)) (h : ∀ x, x ∈ a ↔ x ∈ b) : a = b := by
  have na : a.Nodup := ha.imp (fun h => Int.ne_of_lt h)
  have nb : b.Nodup := hb.imp (fun h => Int.ne_of_lt h)
  exact List.Perm.eq_of_pairwise (le := fun x y : Int => x < y) (fun x y _ _ h1 h2 => by omega) ha hb ((List.perm_ext_iff_of_nodup na nb).2 h)
theorem nums_all {l : List ByteArray} (h : ∀ key ∈ l, (numOf key).isSome = true) : (nums l).length = l.length := by
  induction l with
  | nil => rfl
  | cons x l ih =>
    have h1 := h x (by simp)
    obtain ⟨y, hy⟩ := Option.isSome_iff_exists.1 h1
    unfold nums
    rw [List.filterMap_cons_some hy, List.length_cons, List.length_cons]
    have := ih (fun k hk => h k (by simp [hk]))
    unfold nums at this
    omega
theorem half_len {k t : Int} {d : ByteArray} {xs : List Int} {R : List Rec} (h : Half k t d xs R) (ht : okI t) (hk : 1 ≤ k ∧ k ≤ 255) (hxs : ∀ x ∈ xs, okI x) : (nums (keysL (kindT t k) R)).length = (keysL (kindT t k) R).length := nums_all (fun key hkey => by
  obtain ⟨x, hx, rfl⟩ := (half_keys h ht hk hxs key).1 hkey
  rw [num_key ht hk (hxs x hx)]; rfl)
theorem half_get {k t : Int} {d : ByteArray} {xs : List Int} {R : List Rec} (h : Half k t d xs R) {x : Int} (hx : x ∈ xs) : rget (keyT t k x) R = some (frameT k x d) := (get_some h.srt).2 (h.has x hx)
-- the two of them
structure Two (k s : Int) (a b : ByteArray) (xs : List Int) (R : List Rec) : Prop where
  srt : Srt R
  all : ∀ p ∈ R, ∃ x ∈ xs, p = (keyT s k x, frameT k x a) ∨ p = (keyT (s + 1) k x, frameT k x b)
  ha : ∀ x ∈ xs, (keyT s k x, frameT k x a) ∈ R
  hb : ∀ x ∈ xs, (keyT (s + 1) k x, frameT k x b) ∈ R
theorem Two.nil (k s : Int) (a b : ByteArray) : Two k s a b [] [] := ⟨srt_nil, fun p hp => (by cases hp), fun x hx => (by cases hx), fun x hx => (by cases hx)⟩
theorem Two.add {k s : Int} {a b : ByteArray} {xs : List Int} {R : List Rec} (h : Two k s a b xs R) (hs : okI s) (hs1 : okI (s + 1)) (hk : 1 ≤ k ∧ k ≤ 255) (hxs : ∀ x ∈ xs, okI x) (x : Int) (hx : okI x) : Two k s a b (xs ++ [x]) (put (keyT (s + 1) k x) (frameT k x b) (put (keyT s k x) (frameT k x a) R)) := by
  have hap : ∀ y z, okI y → okI z → keyT s k y ≠ keyT (s + 1) k z := fun y z hy hz => keys_apart s k y (s + 1) k z hs.1 hs.2 (by omega) hk.2 hy.1 hy.2 hs1.1 hs1.2 (by omega) hk.2 hz.1 hz.2 (fun h => by omega)
  have hsame : ∀ t, okI t → ∀ y z, okI y → okI z → y ≠ z → keyT t k y ≠ keyT t k z := fun t ht y z hy hz hne => keys_apart t k y t k z ht.1 ht.2 (by omega) hk.2 hy.1 hy.2 ht.1 ht.2 (by omega) hk.2 hz.1 hz.2 (fun h => hne h.2.2)
  have hok : ∀ y ∈ xs ++ [x], okI y := fun y hy => by
    rcases List.mem_append.1 hy with h1 | h1
    · exact hxs y h1
    · simp at h1; subst h1; exact hx
  refine ⟨srt_put (srt_put h.srt), ?_, ?_, ?_⟩
  · intro p hp
    rcases mem_put.1 hp with rfl | ⟨hp, _⟩
    · exact ⟨x, by simp, .inr rfl⟩
    · rcases mem_put.1 hp with rfl | ⟨hp, _⟩
      · exact ⟨x, by simp, .inl rfl⟩
      · obtain ⟨y, hy, hh⟩ := h.all p hp
        exact ⟨y, List.mem_append_left _ hy, hh⟩
  · intro y hy
    refine mem_put.2 (.inr ⟨?_, hap y x (hok y hy) hx⟩)
    by_cases e : y = x
    · subst e; exact mem_put.2 (.inl rfl)
    · rcases List.mem_append.1 hy with h1 | h1
      · exact mem_put.2 (.inr ⟨h.ha y h1, hsame s hs y x (hok y hy) hx e⟩)
      · simp at h1; exact absurd h1 e
  · intro y hy
    by_cases e : y = x
    · subst e; exact mem_put.2 (.inl rfl)
    · rcases List.mem_append.1 hy with h1 | h1
      · exact mem_put.2 (.inr ⟨mem_put.2 (.inr ⟨h.hb y h1, (hap x y hx (hok y hy)).symm⟩), hsame (s + 1) hs1 y x (hok y hy) hx e⟩)
      · simp at h1; exact absurd h1 e
theorem Two.left {k s : Int} {a b : ByteArray} {xs : List Int} {R : List Rec} (h : Two k s a b xs R) (hs : okI s) (hs1 : okI (s + 1)) (hk : 1 ≤ k ∧ k ≤ 255) (hxs : ∀ x ∈ xs, okI x) : Half k s a xs R := by
  refine ⟨h.srt, fun p hp hpre => ?_, h.ha⟩
  obtain ⟨x, hx, rfl | rfl⟩ := h.all p hp
  · exact ⟨x, hx, rfl⟩
  · rw [pre_kind hs1 hk hs hk] at hpre
    have := of_decide_eq_true hpre
    omega
theorem Two.right {k s : Int} {a b : ByteArray} {xs : List Int} {R : List Rec} (h : Two k s a b xs R) (hs : okI s) (hs1 : okI (s + 1)) (hk : 1 ≤ k ∧ k ≤ 255) (hxs : ∀ x ∈ xs, okI x) : Half k (s + 1) b xs R := by
  refine ⟨h.srt, fun p hp hpre => ?_, h.hb⟩
  obtain ⟨x, hx, rfl | rfl⟩ := h.all p hp
  · rw [pre_kind hs hk hs1 hk] at hpre
    have := of_decide_eq_true hpre
    omega
  · exact ⟨x, hx, rfl⟩
theorem Two.space {k s : Int} {a b : ByteArray} {xs : List Int} {R : List Rec} (h : Two k s a b xs R) (hs : okI s) (hs1 : okI (s + 1)) (hk : 1 ≤ k ∧ k ≤ 255) : keysL (spaceT s) R = keysL (kindT s k) R := by
  unfold keysL
  congr 1
  apply List.filter_congr
  intro p hp
  obtain ⟨x, hx, rfl | rfl⟩ := h.all p hp
  · rw [pre_space hs hs, pre_kind hs hk hs hk, decide_eq_decide]; simp
  · rw [pre_space hs1 hs, pre_kind hs1 hk hs hk, decide_eq_decide]
    constructor
    · intro h; omega
    · intro h; omega
-- what is left behind a Wipe
theorem mem_dels (ks : List ByteArray) (R : List Rec) (p : Rec) : p ∈ ks.foldl (fun r k => del k r) R ↔ p ∈ R ∧ p.1 ∉ ks := by
  induction ks generalizing R with
  | nil => simp
  | cons k ks ih =>
    rw [List.foldl_cons, ih, mem_del]
    simp only [List.mem_cons, not_or]
    constructor
    · rintro ⟨⟨h1, h2⟩, h3⟩; exact ⟨h1, h2, h3⟩
    · rintro ⟨h1, h2, h3⟩; exact ⟨⟨h1, h2⟩, h3⟩
theorem srt_dels (ks : List ByteArray) {R : List Rec} (h : Srt R) : Srt (ks.foldl (fun r k => del k r) R) := by
  induction ks generalizing R with
  | nil => exact h
  | cons k ks ih => exact ih (srt_del h)
theorem Two.wiped {k s : Int} {a b : ByteArray} {xs : List Int} {R : List Rec} (h : Two k s a b xs R) (hs : okI s) (hs1 : okI (s + 1)) (hk : 1 ≤ k ∧ k ≤ 255) (hxs : ∀ x ∈ xs, okI x) :
    Half k (s + 1) b xs ((keysL (spaceT s) R).foldl (fun r k => del k r) R) ∧ keysL (kindT s k) ((keysL (spaceT s) R).foldl (fun r k => del k r) R) = [] := by
  have hL := h.left hs hs1 hk hxs
  have hR := h.right hs hs1 hk hxs
  rw [h.space hs hs1 hk]
  have hks := half_keys hL hs hk hxs
  constructor
  · refine ⟨srt_dels _ h.srt, fun p hp hpre => hR.all p ((mem_dels _ _ _).1 hp).1 hpre, fun x hx => (mem_dels _ _ _).2 ⟨h.hb x hx, fun hin => ?_⟩⟩
    obtain ⟨y, hy, e⟩ := (hks _).1 hin
    exact keys_apart s k y (s + 1) k x hs.1 hs.2 (by omega) hk.2 (hxs y hy).1 (hxs y hy).2 hs1.1 hs1.2 (by omega) hk.2 (hxs x hx).1 (hxs x hx).2 (fun h => by omega) e.symm
  · rw [List.eq_nil_iff_forall_not_mem]
    intro key hkey
    unfold keysL at hkey
    obtain ⟨p, hp, rfl⟩ := List.mem_map.1 hkey
    obtain ⟨h1, h2⟩ := List.mem_filter.1 hp
    obtain ⟨h3, h4⟩ := (mem_dels _ _ _).1 h1
    obtain ⟨x, hx, rfl⟩ := hL.all p h3 h2
    exact h4 ((hks _).2 ⟨x, hx, rfl⟩)
theorem wipe_all (ks : List ByteArray) : ∀ (s : S), s.off = false → s.armed = 0 → (∀ key ∈ ks, 1 ≤ key.size ∧ key.size ≤ 64 ∧ (rget key (now s)).isSome = true) → ks.Nodup → Srt (now s) →
    wipeL ks s = (0, { s with pend := s.pend ++ ks.map fun k => ⟨true, k, ByteArray.empty⟩ }) := by
  induction ks with
  | nil => intro s _ _ _ _ _; simp [wipeL]
  | cons k ks ih =>
    intro s ho ha hall hnd hsrt
    obtain ⟨h1, h2, h3⟩ := hall k (by simp)
    have hr : refS s k = 0 := by unfold refS; rw [ho]; simp [h1, h2]
    have hc : cutS s k = (0, addW s ⟨true, k, ByteArray.empty⟩) := by
      unfold cutS
      rw [if_neg (by simp [hr]), if_pos h3]
      unfold spendS
      rw [if_pos (show (addW s ⟨true, k, ByteArray.empty⟩).armed = 0 from ha)]
    have hn : now (addW s ⟨true, k, ByteArray.empty⟩) = del k (now s) := by rw [now_add]; rfl
    obtain ⟨hnk, hnd2⟩ := List.nodup_cons.1 hnd
    rw [wipeL, hc, if_pos rfl]
    rw [ih (addW s ⟨true, k, ByteArray.empty⟩) ho ha (fun key hkey => by
      obtain ⟨a1, a2, a3⟩ := hall key (by simp [hkey])
      refine ⟨a1, a2, ?_⟩
      rw [hn, get_del_other hsrt (show key ≠ k by rintro rfl; exact hnk hkey)]
      exact a3) hnd2 (by rw [hn]; exact srt_del hsrt)]
    simp [addW]
theorem now_wiped (ks : List ByteArray) (s : S) : now { s with pend := s.pend ++ ks.map fun k => (⟨true, k, ByteArray.empty⟩ : W) } = ks.foldl (fun r k => del k r) (now s) := by
  unfold now
  simp only [List.foldl_append, List.foldl_map]
  rfl
-- the states of the law
def ws (k s : Int) (a b : ByteArray) (xs : List Int) : List W := xs.flatMap fun x => [⟨false, keyT s k x, frameT k x a⟩, ⟨false, keyT (s + 1) k x, frameT k x b⟩]
def sW (k s : Int) (a b : ByteArray) (xs : List Int) : S := ⟨536870912, [], ws k s a b xs, 0, false, 0⟩
theorem sW_add (k s : Int) (a b : ByteArray) (xs : List Int) (x : Int) : addW (addW (sW k s a b xs) ⟨false, keyT s k x, frameT k x a⟩) ⟨false, keyT (s + 1) k x, frameT k x b⟩ = sW k s a b (xs ++ [x]) := by simp [sW, ws, addW]
theorem sW_now (k s : Int) (a b : ByteArray) (xs : List Int) (x : Int) : now (sW k s a b (xs ++ [x])) = put (keyT (s + 1) k x) (frameT k x b) (put (keyT s k x) (frameT k x a) (now (sW k s a b xs))) := by
  rw [← sW_add, now_add, now_add]; rfl
theorem ws_len (k s : Int) (a b : ByteArray) (xs : List Int) : (ws k s a b xs).length = 2 * xs.length := by
  unfold ws
  induction xs with
  | nil => rfl
  | cons x l ih => rw [List.flatMap_cons, List.length_append, ih]; simp; omega
theorem sW_two {k s : Int} {a b : ByteArray} (hs : okI s) (hs1 : okI (s + 1)) (hk : 1 ≤ k ∧ k ≤ 255) : ∀ n (xs : List Int), xs.length = n → (∀ x ∈ xs, okI x) → Two k s a b xs (now (sW k s a b xs)) := by
  intro n
  induction n with
  | zero =>
    intro xs h _
    have : xs = [] := List.length_eq_zero_iff.1 h
    subst this
    exact Two.nil k s a b
  | succ n ih =>
    intro xs h hok
    rcases List.eq_nil_or_concat xs with e | ⟨l, x, e⟩
    · subst e; simp at h
    · subst e
      rw [List.concat_eq_append] at h hok ⊢
      rw [sW_now]
      have hl : l.length = n := by simp at h; exact h
      exact (ih l hl (fun y hy => hok y (by simp [hy]))).add hs hs1 hk (fun y hy => hok y (by simp [hy])) x (hok x (by simp))
theorem tot_bound (c : Nat) {R : List Rec} (h : ∀ p ∈ R, cnt p ≤ c) : tot R ≤ c * R.length := by
  induction R with
  | nil => simp [tot]
  | cons p R ih =>
    have h1 := h p (by simp)
    have h2 := ih (fun q hq => h q (by simp [hq]))
    rw [tot, List.length_cons, Nat.mul_succ]; omega
theorem sW_tot {k s : Int} {a b : ByteArray} (hs : okI s) (hs1 : okI (s + 1)) (hk : 1 ≤ k ∧ k ≤ 255) (ha : a.size = 1) (hb : b.size = 1) (xs : List Int) (hok : ∀ x ∈ xs, okI x) (hl : xs.length ≤ 100) : tot (now (sW k s a b xs)) ≤ 10600 := by
  have h := sW_two (a := a) (b := b) hs hs1 hk xs.length xs rfl hok
  have h1 := tot_bound 53 (R := now (sW k s a b xs)) (fun p hp => by
    obtain ⟨x, hx, rfl | rfl⟩ := h.all p hp
    · have z1 := keyT_size s k x
      have z2 := frameT_size k x a
      simp only [cnt]; omega
    · have z1 := keyT_size (s + 1) k x
      have z2 := frameT_size k x b
      simp only [cnt]; omega)
  have h2 : (now (sW k s a b xs)).length ≤ 0 + (ws k s a b xs).length := len_do _ _
  rw [ws_len] at h2
  have h3 : 53 * (now (sW k s a b xs)).length ≤ 53 * 200 := Nat.mul_le_mul_left _ (by omega)
  omega
theorem sW_put {k s : Int} {a b : ByteArray} (hs : okI s) (hs1 : okI (s + 1)) (hk : 1 ≤ k ∧ k ≤ 255) (ha : a.size = 1) (hb : b.size = 1) (xs : List Int) (hok : ∀ x ∈ xs, okI x) (hl : xs.length ≤ 100) (x : Int) :
    putS (sW k s a b xs) (keyT s k x) (frameT k x a) = (0, addW (sW k s a b xs) ⟨false, keyT s k x, frameT k x a⟩) ∧
    putS (addW (sW k s a b xs) ⟨false, keyT s k x, frameT k x a⟩) (keyT (s + 1) k x) (frameT k x b) = (0, sW k s a b (xs ++ [x])) := by
  have ht := sW_tot (a := a) (b := b) hs hs1 hk ha hb xs hok hl
  have hsr := (sW_two (a := a) (b := b) hs hs1 hk xs.length xs rfl hok).srt
  have z1 := keyT_size s k x
  have z2 := frameT_size k x a
  have z3 := keyT_size (s + 1) k x
  have z4 := frameT_size k x b
  have h1 := tot_le (keyT s k x) (frameT k x a) hsr
  have h2 := tot_le (keyT (s + 1) k x) (frameT k x b) (srt_put (k := keyT s k x) (d := frameT k x a) hsr)
  simp only [cnt] at h1 h2
  constructor
  · refine put_ok rfl rfl (by omega) (by omega) ?_
    show (_ : Int) ≤ 536870912
    omega
  · rw [← sW_add]
    refine put_ok rfl rfl (by omega) (by omega) ?_
    rw [now_add]
    show ((tot (put (keyT (s + 1) k x) (frameT k x b) (put (keyT s k x) (frameT k x a) (now (sW k s a b xs)))) : Nat) : Int) ≤ 536870912
    omega
-- the state behind the Wipe
def sV (k s : Int) (a b : ByteArray) (xs : List Int) : S := { sW k s a b xs with pend := (sW k s a b xs).pend ++ (keysL (spaceT s) (now (sW k s a b xs))).map fun k => ⟨true, k, ByteArray.empty⟩ }
theorem sV_now (k s : Int) (a b : ByteArray) (xs : List Int) : now (sV k s a b xs) = (keysL (spaceT s) (now (sW k s a b xs))).foldl (fun r k => del k r) (now (sW k s a b xs)) := now_wiped _ _
theorem sW_wipe {k s : Int} {a b : ByteArray} (hs : okI s) (hs1 : okI (s + 1)) (hk : 1 ≤ k ∧ k ≤ 255) (xs : List Int) (hok : ∀ x ∈ xs, okI x) :
    wipeS (sW k s a b xs) s = (((((nums (keysL (kindT s k) (now (sW k s a b xs)))).length : Nat) : Int), 0), sV k s a b xs) := by
  have h := sW_two (a := a) (b := b) hs hs1 hk xs.length xs rfl hok
  have hL := h.left hs hs1 hk hok
  have hkeys : keysS (sW k s a b xs) (spaceT s) = keysL (spaceT s) (now (sW k s a b xs)) := by unfold keysS; rw [if_neg (by simp [sW])]
  have hw := wipe_all (keysL (spaceT s) (now (sW k s a b xs))) (sW k s a b xs) rfl rfl (fun key hkey => by
    rw [h.space hs hs1 hk] at hkey
    obtain ⟨x, hx, rfl⟩ := (half_keys hL hs hk hok key).1 hkey
    have z := keyT_size s k x
    refine ⟨by omega, by omega, ?_⟩
    rw [half_get hL hx]; rfl) (keysL_nodup h.srt) h.srt
  unfold wipeS
  rw [if_neg (by have := hs.1; omega), if_neg (by simp [sW]), hkeys, hw, if_pos rfl, half_len hL hs hk hok, ← h.space hs hs1 hk]
  rfl
theorem numbers_is {st : S} (ho : st.off = false) {t k : Int} (ht : okI t) (hk : 1 ≤ k ∧ k ≤ 255) : numbersS st t k = nums (keysL (kindT t k) (now st)) := by
  unfold numbersS
  rw [if_pos ⟨ht.1, hk.1, hk.2⟩]
  unfold keysS
  rw [if_neg (by simp [ho])]
end Go.Proofs.Ytgioekepoebibaa.bf
