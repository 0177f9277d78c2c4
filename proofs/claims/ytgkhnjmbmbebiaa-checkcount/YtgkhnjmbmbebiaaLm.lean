import Derived.Test.YtgkhnjmbmbebiaaLk
import Derived.Test.YtgkhnjmbmbebiaaMi
namespace Go.Proofs.Ytgkhnjmbmbebiaa.lm
open Go.RowKit Go.PlainAid
open Go.Proofs.Ytgkhnjmbmbebiaa.ca Go.Proofs.Ytgkhnjmbmbebiaa.cb Go.Proofs.Ytgkhnjmbmbebiaa.cp Go.Proofs.Ytgkhnjmbmbebiaa.ga Go.Proofs.Ytgkhnjmbmbebiaa.aa Go.Proofs.Ytgkhnjmbmbebiaa.ba Go.Proofs.Ytgkhnjmbmbebiaa.bb Go.Proofs.Ytgkhnjmbmbebiaa.kp Go.Proofs.Ytgkhnjmbmbebiaa.lk Go.Proofs.Ytgkhnjmbmbebiaa.mi
set_option linter.unusedVariables false

def natL (xs : List Int) : List Nat := xs.map Int.toNat
-- rising places
def Ris (xs : List Int) : Prop := (∀ j, j < xs.length → 0 ≤ xs.getD j 0) ∧ ∀ i j, i < j → j < xs.length → xs.getD i 0 < xs.getD j 0
-- how many places lie ahead of one
def cnt (xs : List Int) (a : Nat) : Nat := (xs.filter fun p => decide (p < (a : Int))).length
theorem cnt_spec (a : Nat) : ∀ xs : List Int, Ris xs → (∀ j, j < cnt xs a → j < xs.length ∧ xs.getD j 0 < a) ∧ (∀ j, cnt xs a ≤ j → j < xs.length → (a : Int) ≤ xs.getD j 0) := by
  intro xs
  induction xs with
  | nil => intro _; exact ⟨fun j h => by simp [cnt] at h, fun j _ h => by simp at h⟩
  | cons x t ih =>
    intro hr
    have ht : Ris t := ⟨fun j h => by have := hr.1 (j + 1) (by simp; omega); simpa using this, fun i j h1 h2 => by have := hr.2 (i + 1) (j + 1) (by omega) (by simp; omega); simpa using this⟩
    obtain ⟨i1, i2⟩ := ih ht
    by_cases hx : x < (a : Int)
    · have hc : cnt (x :: t) a = cnt t a + 1 := by unfold cnt; rw [List.filter_cons, if_pos (decide_eq_true hx)]; rfl
      rw [hc]
      refine ⟨fun j h => ?_, fun j h1 h2 => ?_⟩
      · cases j with
        | zero => exact ⟨by simp, by simpa using hx⟩
        | succ j => have := i1 j (by omega); exact ⟨by simp; omega, by simpa using this.2⟩
      · cases j with
        | zero => omega
        | succ j => have := i2 j (by omega) (by simpa using h2); simpa using this
    · have hc : cnt (x :: t) a = 0 := by
        unfold cnt
        rw [List.length_eq_zero_iff, List.filter_eq_nil_iff]
        intro p hp
        obtain ⟨j, hj, rfl⟩ := List.getElem_of_mem hp
        have : x ≤ (x :: t)[j] := by
          cases j with
          | zero => simp
          | succ j =>
            have := hr.2 0 (j + 1) (by omega) hj
            rw [List.getD_eq_getElem?_getD, List.getD_eq_getElem?_getD, List.getElem?_eq_getElem hj] at this
            simp at this ⊢
            omega
        simp only [decide_eq_true_eq]
        omega
      rw [hc]
      refine ⟨fun j h => by omega, fun j _ h2 => ?_⟩
      have : x ≤ (x :: t).getD j 0 := by
        cases j with
        | zero => simp
        | succ j => have := hr.2 0 (j + 1) (by omega) h2; simp at this ⊢; omega
      omega
theorem cnt_le (xs : List Int) (a : Nat) : cnt xs a ≤ xs.length := List.length_filter_le _ _
theorem cnt_is {xs : List Int} (hr : Ris xs) {a c : Nat} (h0 : c ≤ xs.length) (h1 : ∀ j, j < c → xs.getD j 0 < a) (h2 : ∀ j, c ≤ j → j < xs.length → (a : Int) ≤ xs.getD j 0) : cnt xs a = c := by
  obtain ⟨s1, s2⟩ := cnt_spec a xs hr
  have hl := cnt_le xs a
  by_cases h : cnt xs a < c
  · have := s2 (cnt xs a) (Nat.le_refl _) (by omega)
    have := h1 (cnt xs a) h
    omega
  · by_cases h' : c < cnt xs a
    · have := s1 c h'
      have := h2 c (Nat.le_refl _) (by omega)
      omega
    · omega
theorem mem_natL {xs : List Int} {p : Nat} : p ∈ natL xs → ∃ j, j < xs.length ∧ (xs.getD j 0).toNat = p := fun h => by
  unfold natL at h
  rw [List.mem_map] at h
  obtain ⟨x, hx, he⟩ := h
  obtain ⟨j, hj, rfl⟩ := List.getElem_of_mem hx
  exact ⟨j, hj, by rw [List.getD_eq_getElem?_getD, List.getElem?_eq_getElem hj]; exact he⟩
theorem natL_mem {xs : List Int} {j : Nat} (h : j < xs.length) : (xs.getD j 0).toNat ∈ natL xs := by
  unfold natL
  rw [List.mem_map]
  exact ⟨xs[j], List.getElem_mem h, by rw [List.getD_eq_getElem?_getD, List.getElem?_eq_getElem h]; rfl⟩
theorem lkM_none {xs : List Int} (hr : Ris xs) {a b : Nat} (h : cnt xs a = xs.length ∨ (b : Int) ≤ xs.getD (cnt xs a) 0) : lkM (natL xs) a b = 1 := by
  unfold lkM
  rw [if_neg]
  rintro ⟨p, hp, h1, h2⟩
  obtain ⟨j, hj, rfl⟩ := mem_natL hp
  have h0 := hr.1 j hj
  obtain ⟨s1, s2⟩ := cnt_spec a xs hr
  by_cases hc : j < cnt xs a
  · have := (s1 j hc).2; omega
  · rcases h with h | h
    · omega
    · by_cases he : cnt xs a = j
      · rw [he] at h; omega
      · have := hr.2 (cnt xs a) j (by omega) hj; omega
theorem lkM_some {xs : List Int} (hr : Ris xs) {a b : Nat} (h : cnt xs a < xs.length) (h2 : xs.getD (cnt xs a) 0 < b) : lkM (natL xs) a b = if b - a = 1 then 0 else 2 := by
  unfold lkM
  have h0 := hr.1 _ h
  have := (cnt_spec a xs hr).2 _ (Nat.le_refl _) h
  rw [if_pos ⟨_, natL_mem h, by omega, by omega⟩]
theorem cnt_none {xs : List Int} (hr : Ris xs) {a b : Nat} (hab : a < b) (h : cnt xs a = xs.length ∨ (b : Int) ≤ xs.getD (cnt xs a) 0) : cnt xs b = cnt xs a := by
  obtain ⟨s1, s2⟩ := cnt_spec a xs hr
  refine cnt_is hr (cnt_le _ _) (fun j hj => by have := (s1 j hj).2; omega) (fun j h1 h2 => ?_)
  rcases h with h | h
  · omega
  · by_cases he : cnt xs a = j
    · rw [← he]; exact h
    · have := hr.2 (cnt xs a) j (by omega) h2; omega
theorem cnt_leaf {xs : List Int} (hr : Ris xs) {a b : Nat} (h : cnt xs a < xs.length) (h2 : xs.getD (cnt xs a) 0 < b) (h1 : b - a = 1) : cnt xs b = cnt xs a + 1 := by
  obtain ⟨s1, s2⟩ := cnt_spec a xs hr
  have := s2 _ (Nat.le_refl _) h
  refine cnt_is hr (by omega) (fun j hj => ?_) (fun j g1 g2 => ?_)
  · by_cases he : j = cnt xs a
    · subst he; exact h2
    · have := (s1 j (by omega)).2; omega
  · have := hr.2 (cnt xs a) j (by omega) g2; omega
-- a list of numbers in one block
def RdI (g : Nat) (w : World) (v : Value) (l : List Int) : Prop :=
  ∃ a cap, v = .slice a l.length cap ∧ l.length ≤ cap ∧ (l.length = 0 ∨ ∃ off, a = some ⟨g, off, none⟩ ∧ ∀ i, i < l.length → w.cell? ⟨g, off + i, none⟩ = some (.int .i64 (l.getD i 0)))
theorem RdI.keep {g : Nat} {w w' : World} {v : Value} {l : List Int} (h : RdI g w v l) {G : Nat → Prop} (k : Kp G w w') (hg : ¬ G g) : RdI g w' v l := by
  obtain ⟨a, cap, rfl, hc, h0 | ⟨off, rfl, hh⟩⟩ := h
  · exact ⟨a, cap, rfl, hc, .inl h0⟩
  · exact ⟨_, cap, rfl, hc, .inr ⟨off, rfl, fun i hi => k.cell (hh i hi) hg⟩⟩
structure SM (ab g : Nat) (xs : List Int) (k : Nat) (w : World) : Prop where
  ne : ab ≠ g
  lt : g < w.heap.size
  box : ∃ v, w.heap[ab]? = some (.cells #[v] 22 (0, 0)) ∧ RdI g w v (xs.drop k)
theorem SM.keep {ab g : Nat} {xs : List Int} {k : Nat} {w w' : World} (h : SM ab g xs k w) {G : Nat → Prop} (kp : Kp G w w') (h1 : ¬ G ab) (h2 : ¬ G g) : SM ab g xs k w' := by
  obtain ⟨v, hc, hr⟩ := h.box
  exact ⟨h.ne, Nat.lt_of_lt_of_le h.lt kp.size, v, (kp.block _ (Array.getElem?_eq_some_iff.1 hc).1 h1).trans hc, hr.keep kp h2⟩
theorem lookM (ab g : Nat) (xs : List Int) (hr : Ris xs) (hi : ∀ j, j < xs.length → xs.getD j 0 ≤ 9223372036854775807) (a b : Nat) (w : World) (hab : a < b) (hb : b ≤ 4611686018427387904) (hS : SM ab g xs (cnt xs a) w) :
    Calls Try.prog 39 #[.agg #[.int .i64 a, .int .i64 b], .pointer (some ⟨ab, 0, none⟩)] w fun e w' => e = .returned (.int .i64 (lkM (natL xs) a b : Nat)) ∧ SM ab g xs (if lkM (natL xs) a b < 2 then cnt xs b else cnt xs a) w' ∧ Kp (fun q => q = ab) w w' := by
  have BA : Hid (Below w.heap.size w (w.alloc (.cells #[.int .i64 a, .int .i64 b] 47))) := (Below.refl _ _).alloc (Nat.le_refl _) _
  have HB : Hid (Bx (w.alloc (.cells #[.int .i64 a, .int .i64 b] 47)) w.heap.size a b) := part_box w a b
  have SA : Hid (SM ab g xs (cnt xs a) (w.alloc (.cells #[.int .i64 a, .int .i64 b] 47))) := hS.keep (G := no) (Kp.of_below BA.out) (fun h => h) (fun h => h)
  have KA : Hid (Kp (fun q => q = ab) w (w.alloc (.cells #[.int .i64 a, .int .i64 b] 47))) := Kp.of_below BA.out
  have LC : Hid (∀ w, Calls _ _ _ _ _) := fun w => isLeaf a b (by omega) hb w
  obtain ⟨v, hv0, aa, cap, rfl, hcap, hh⟩ := SA.out.box
  have hv : (w.alloc (.cells #[.int .i64 a, .int .i64 b] 47)).cell? ⟨ab, 0, none⟩ = some (.slice aa (xs.drop (cnt xs a)).length cap) := cell_of_row _ _ 0 _ _ _ hv0
  have HV0 : Hid (_ = _) := hv0
  clear hv0
  obtain ⟨c1, c2⟩ := HB.out
  by_cases h : cnt xs a = xs.length
  · have e1 := lkM_none hr (b := b) (.inl h)
    have e2 := cnt_none hr hab (.inl h)
    rw [e1, if_pos (by omega), e2]
    have q0 : ((((xs.drop (cnt xs a)).length : Nat) : Int) == 0) = true := by rw [List.length_drop]; simp; omega
    have hl : ((xs.drop (cnt xs a)).length : Int) = 0 := by rw [List.length_drop]; omega
    obtain ⟨n, HN⟩ : ∃ n, Hid ((xs.drop (cnt xs a)).length = n) := ⟨_, rfl⟩
    rw [HN.out] at hv q0 hl
    have HR : Hid (Ris xs ∧ SM ab g xs (cnt xs a) (w.alloc (.cells #[.int .i64 a, .int .i64 b] 47))) := ⟨hr, SA.out⟩
    clear hh hr hS h hi LC hcap
    go_enter Try.func39, Try.ntmps39
    go_wp2_with fail
    go_quiet (fail)
    go_wp2
    go_ret
    exact ⟨rfl, HR.out.2.keep (G := no) (Kp.of_below (below_dN (Below.refl _ _) _)) (fun h => h) (fun h => h), KA.out.trans (Kp.of_below (below_dN (Below.refl _ _) _))⟩
  · have hlt : cnt xs a < xs.length := by have := cnt_le xs a; omega
    have hd : (xs.drop (cnt xs a)).length = xs.length - cnt xs a := List.length_drop
    have hget : ∀ i, (xs.drop (cnt xs a)).getD i 0 = xs.getD (cnt xs a + i) 0 := fun i => by rw [List.getD_eq_getElem?_getD, List.getD_eq_getElem?_getD, List.getElem?_drop]
    obtain ⟨off, rfl, hh2⟩ := hh.resolve_left (by omega)
    clear hh
    have x0 := hh2 0 (by omega)
    rw [hget 0, Nat.add_zero, Nat.add_zero] at x0
    have q0 : ((((xs.drop (cnt xs a)).length : Nat) : Int) == 0) = false := by rw [beq_eq_false_iff_ne, hd]; omega
    have hi0 := hi _ hlt
    have h00 := hr.1 _ hlt
    obtain ⟨n, HN⟩ : ∃ n, Hid ((xs.drop (cnt xs a)).length = n) := ⟨_, rfl⟩
    obtain ⟨y, HY⟩ : ∃ y, Hid (xs.getD (cnt xs a) 0 = y) := ⟨_, rfl⟩
    have hn1 : 1 ≤ n := by rw [← HN.out]; omega
    have HR : Hid (Ris xs ∧ cnt xs a < xs.length ∧ SM ab g xs (cnt xs a) (w.alloc (.cells #[.int .i64 a, .int .i64 b] 47))) := ⟨hr, hlt, SA.out⟩
    have HH : Hid (∀ i, i < n → (w.alloc (.cells #[.int .i64 a, .int .i64 b] 47)).cell? ⟨g, off + i, none⟩ = some (.int .i64 (xs.getD (cnt xs a + i) 0))) := fun i hi => by rw [← hget]; exact hh2 i (by rw [HN.out]; exact hi)
    rw [HN.out] at hv q0 hcap
    rw [HY.out] at x0 hi0 h00
    have B2 : Hid (∀ j, Below (w.alloc (.cells #[.int .i64 a, .int .i64 b] 47)).heap.size (w.alloc (.cells #[.int .i64 a, .int .i64 b] 47)) ((w.alloc (.cells #[.int .i64 a, .int .i64 b] 47)).drewN j)) := fun j => below_dN (Below.refl _ _) j
    by_cases h2 : (b : Int) ≤ y
    · have e1 := lkM_none hr (b := b) (.inr (by rw [HY.out]; exact h2))
      have e2 := cnt_none hr hab (.inr (by rw [HY.out]; exact h2))
      rw [e1, if_pos (by omega), e2]
      have d1 : decide ((b : Int) ≤ y) = true := decide_eq_true h2
      clear hh2 hr hS h hi LC hd hget hlt h2
      go_enter Try.func39, Try.ntmps39
      go_wp2_with fail
      go_quiet (fail)
      go_wp2
      go_ret
      exact ⟨rfl, HR.out.2.2.keep (G := no) (Kp.of_below (B2.out _)) (fun h => h) (fun h => h), KA.out.trans (Kp.of_below (B2.out _))⟩
    · have d1 : decide ((b : Int) ≤ y) = false := decide_eq_false h2
      have e1 := lkM_some hr (b := b) hlt (by rw [HY.out]; omega)
      by_cases h3 : b - a = 1
      · have e2 := cnt_leaf hr (b := b) hlt (by rw [HY.out]; omega) h3
        rw [e1, if_pos h3, if_pos (by omega), e2]
        rw [decide_eq_true h3] at LC
        clear hh2 hr hS h hi hd hget hlt h2 h3
        go_enter Try.func39, Try.ntmps39
        go_wp2_with fail
        go_quiet (fail)
        go_wp2_with fail
        refine (LC.out _).mono ?_
        rintro e w2 ⟨rfl, hb2⟩
        have k2 : Below (w.alloc (.cells #[.int .i64 a, .int .i64 b] 47)).heap.size (w.alloc (.cells #[.int .i64 a, .int .i64 b] 47)) w2 := over (B2.out _) hb2
        have K2 : Hid (Kp (fun q => q = ab) w w2) := KA.out.trans (Kp.of_below k2)
        have S2 : Hid (SM ab g xs (cnt xs a) w2) := HR.out.2.2.keep (G := no) (Kp.of_below k2) (fun h => h) (fun h => h)
        have H2 : Hid (∀ i, i < n → w2.cell? ⟨g, off + i, none⟩ = some (.int .i64 (xs.getD (cnt xs a + i) 0))) := fun i hi => (k2.cell (World.block_lt_of_cell? _ _ (HH.out i hi))).trans (HH.out i hi)
        have v0 := (k2.block _ (Array.getElem?_eq_some_iff.1 HV0.out).1).trans HV0.out
        rw [HN.out] at v0
        have v2 : w2.cell? ⟨ab, 0, none⟩ = some (.slice (some ⟨g, off, none⟩) n cap) := cell_of_row _ _ 0 _ _ _ v0
        have f2 := frozen_of_row _ _ 0 _ _ v0
        have V0 : Hid (w2.heap[ab]? = _) := v0
        clear v0
        clear hb2 k2 hv x0 c1 c2
        have HSM : Hid (∀ (aa : Option Addr), (n - 1 = 0 ∨ aa = some ⟨g, off + 1, none⟩) → SM ab g xs (cnt xs a + 1) (w2.setCell ⟨ab, 0, none⟩ (.slice aa (n - 1) (cap - 1)))) := by
          intro aa haa
          have hl : (xs.drop (cnt xs a + 1)).length = n - 1 := by rw [← HN.out, List.length_drop, List.length_drop]; omega
          have hk : Kp (fun q => q = ab) w2 (w2.setCell ⟨ab, 0, none⟩ (.slice aa (n - 1) (cap - 1))) := Kp.setCell _ _ _ _ rfl
          refine ⟨S2.out.ne, Nat.lt_of_lt_of_le S2.out.lt hk.size, _, heap_setCell_same _ _ 0 _ _ _ V0.out, aa, cap - 1, by rw [hl], by omega, ?_⟩
          rcases haa with h | h
          · exact .inl (by omega)
          · refine .inr ⟨off + 1, h, fun i hi => ?_⟩
            rw [List.getD_eq_getElem?_getD, List.getElem?_drop, ← List.getD_eq_getElem?_getD]
            have := hk.cell (H2.out (i + 1) (by omega)) (fun e => S2.out.ne e.symm)
            rw [show off + 1 + i = off + (i + 1) by omega, show cnt xs a + 1 + i = cnt xs a + (i + 1) by omega]
            exact this
        by_cases hc1 : cap = 1
        · subst hc1
          have hn0 : n = 1 := by omega
          subst hn0
          go_wp2
          go_ret
          exact ⟨rfl, HSM.out _ (.inl (by first | rfl | trivial)), K2.out.trans (Kp.setCell _ _ _ _ rfl)⟩
        · go_wp2
          go_ret
          exact ⟨rfl, HSM.out _ (.inr rfl), K2.out.trans (Kp.setCell _ _ _ _ rfl)⟩
      · rw [e1, if_neg h3, if_neg (by omega)]
        rw [decide_eq_false h3] at LC
        clear hh2 hr hS h hi hd hget hlt h2 h3
        go_enter Try.func39, Try.ntmps39
        go_wp2_with fail
        go_quiet (fail)
        go_wp2_with fail
        refine (LC.out _).mono ?_
        rintro e w2 ⟨rfl, hb2⟩
        have k2 : Below (w.alloc (.cells #[.int .i64 a, .int .i64 b] 47)).heap.size (w.alloc (.cells #[.int .i64 a, .int .i64 b] 47)) w2 := over (B2.out _) hb2
        have K2 : Hid (Kp (fun q => q = ab) w w2) := KA.out.trans (Kp.of_below k2)
        have S2 : Hid (SM ab g xs (cnt xs a) w2) := HR.out.2.2.keep (G := no) (Kp.of_below k2) (fun h => h) (fun h => h)
        clear hb2 k2 hv x0 c1 c2
        go_wp2
        go_ret
        exact ⟨rfl, S2.out, K2.out⟩
theorem ShM (ab g : Nat) (xs : List Int) (hr : Ris xs) (hi : ∀ j, j < xs.length → xs.getD j 0 ≤ 9223372036854775807) : Shp (fun b => b = ab ∨ b = g) (fun b => b = ab) (SM ab g xs) (lkM (natL xs)) (cnt xs) 39 #[.pointer (some ⟨ab, 0, none⟩)] where
  enter := fun args w => by simp [go_sem]
  keep := fun h k hg => h.keep k (fun e => hg _ e (.inl rfl)) (fun e => hg _ e (.inr rfl))
  fd := fun b h => .inl h
  fl := fun h b hb => by
    rcases hb with rfl | rfl
    · obtain ⟨v, hv, _⟩ := h.box
      exact (Array.getElem?_eq_some_iff.1 hv).1
    · exact h.lt
  call := fun a b w hab hb hP => lookM ab g xs hr hi a b w hab hb hP
  wide := fun hab h => by
    unfold lkM at h
    split at h
    · split at h <;> omega
    · omega
  four := fun a b => by
    unfold lkM
    split
    · split <;> omega
    · omega
  turn := fun h => by
    unfold lkM at h
    split at h
    · split at h <;> omega
    · omega
end Go.Proofs.Ytgkhnjmbmbebiaa.lm
