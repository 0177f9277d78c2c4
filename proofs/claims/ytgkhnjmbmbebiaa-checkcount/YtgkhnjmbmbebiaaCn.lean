import Derived.Test.YtgkhnjmbmbebiaaCo
namespace Go.Proofs.Ytgkhnjmbmbebiaa.cn
open Go.RowKit Go.PlainAid
open Go.Proofs.Ytgkhnjmbmbebiaa.ca Go.Proofs.Ytgkhnjmbmbebiaa.cb Go.Proofs.Ytgkhnjmbmbebiaa.cp Go.Proofs.Ytgkhnjmbmbebiaa.ga Go.Proofs.Ytgkhnjmbmbebiaa.aa Go.Proofs.Ytgkhnjmbmbebiaa.ba Go.Proofs.Ytgkhnjmbmbebiaa.bb Go.Proofs.Ytgkhnjmbmbebiaa.kp Go.Proofs.Ytgkhnjmbmbebiaa.lk Go.Proofs.Ytgkhnjmbmbebiaa.mi Go.Proofs.Ytgkhnjmbmbebiaa.mj Go.Proofs.Ytgkhnjmbmbebiaa.lm Go.Proofs.Ytgkhnjmbmbebiaa.tl Go.Proofs.Ytgkhnjmbmbebiaa.co
set_option linter.unusedVariables false

def Made (w : World) (n t : Nat) (e : Ending) (w1 : World) : Prop :=
  Below w.heap.size w w1 ∧ ∃ lg lv, e = .returned (.func (.func lg) #[] lv) ∧ Calls Try.prog 13 #[.int .i64 n, .func (.func lg) #[] lv] w1 fun e w' => e = .returned (.int .i64 t) ∧ Below w.heap.size w w'
theorem below_of {w w1 w2 : World} {F : Nat → Prop} (h : Below w.heap.size w w1) (k : Kp F w1 w2) (hF : ∀ b, F b → w.heap.size ≤ b) : Below w.heap.size w w2 :=
  h.trans (k.below hF h.size)
theorem shape1x (a n : Nat) (b : Int) (v : Value) (h1 : a < n) (hn : n ≤ 4611686018427387904) (w : World) :
    Calls Try.prog 14 #[.int .i64 1, .int .i64 a, .int .i64 b, v] w (Made w n (WL (lkI a) 0 n).length) := by
  have IC : Hid (∀ w, Calls _ _ _ _ _) := fun w => inclusionC a w
  go_enter Try.func14, Try.ntmps14
  go_wp2_with fail
  refine (IC.out _).mono ?_
  rintro e w1 ⟨rfl, rfl⟩
  go_wp2
  go_ret
  have BA : Below w.heap.size w (w.alloc (.cells #[.int .i64 a] 3)) := (Below.refl _ _).alloc (Nat.le_refl _) _
  refine ⟨BA, _, _, rfl, (tallyC (ShI w.heap.size a) n (by omega) hn _ (by rw [World.cell?_alloc_at _ _ _ _ rfl]; rfl)).mono ?_⟩
  rintro e w2 ⟨rfl, _, k⟩
  exact ⟨rfl, below_of BA k (fun b h => h.elim)⟩
theorem shape2x (a n : Nat) (b : Int) (v : Value) (h1 : 1 ≤ a) (h2 : a ≤ n) (hn : n ≤ 4611686018427387904) (w : World) :
    Calls Try.prog 14 #[.int .i64 2, .int .i64 a, .int .i64 b, v] w (Made w n (WL (lkC a) 0 n).length) := by
  have IC : Hid (∀ w, Calls _ _ _ _ _) := fun w => consistencyC a w
  go_enter Try.func14, Try.ntmps14
  go_wp2_with fail
  refine (IC.out _).mono ?_
  rintro e w1 ⟨rfl, rfl⟩
  go_wp2
  go_ret
  have BA : Below w.heap.size w ((w.alloc (.cells #[.int .i64 a] 3)).alloc (.cells #[.int .i64 0, .int .i64 a] 47)) := ((Below.refl _ _).alloc (Nat.le_refl _) _).alloc (by simp) _
  have B2 : Below (w.alloc (.cells #[.int .i64 a] 3)).heap.size (w.alloc (.cells #[.int .i64 a] 3)) ((w.alloc (.cells #[.int .i64 a] 3)).alloc (.cells #[.int .i64 0, .int .i64 a] 47)) := (Below.refl _ _).alloc (Nat.le_refl _) _
  have s1 : (w.alloc (.cells #[.int .i64 a] 3)).heap.size = w.heap.size + 1 := by simp
  refine ⟨BA, _, _, rfl, (tallyC (ShC (w.heap.size + 1) w.heap.size a h1 (by omega)) n (by omega) hn _ ⟨?_, ?_⟩).mono ?_⟩
  · rw [← s1]; exact ⟨by rw [World.cell?_alloc_at _ _ _ _ rfl]; rfl, by rw [World.cell?_alloc_at _ _ _ _ rfl]; rfl⟩
  · refine (B2.cell (p := ⟨w.heap.size, 0, none⟩) (by show w.heap.size < _; rw [s1]; omega)).trans ?_
    rw [World.cell?_alloc_at _ _ _ _ rfl]; rfl
  · rintro e w2 ⟨rfl, _, k⟩
    exact ⟨rfl, below_of BA k (fun b h => h.elim)⟩
theorem shape0x (n : Nat) (b : Int) (v : Value) (w : World) :
    Calls Try.prog 14 #[.int .i64 2, .int .i64 0, .int .i64 b, v] w (Made w n 0) := by
  have IC : Hid (∀ w, Calls _ _ _ _ _) := fun w => consistencyC 0 w
  go_enter Try.func14, Try.ntmps14
  go_wp2_with fail
  refine (IC.out _).mono ?_
  rintro e w1 ⟨rfl, rfl⟩
  go_wp2
  go_ret
  have BA : Below w.heap.size w ((w.alloc (.cells #[.int .i64 0] 3)).alloc (.cells #[.int .i64 0, .int .i64 0] 47)) := ((Below.refl _ _).alloc (Nat.le_refl _) _).alloc (by simp) _
  have B2 : Below (w.alloc (.cells #[.int .i64 0] 3)).heap.size (w.alloc (.cells #[.int .i64 0] 3)) ((w.alloc (.cells #[.int .i64 0] 3)).alloc (.cells #[.int .i64 0, .int .i64 0] 47)) := (Below.refl _ _).alloc (Nat.le_refl _) _
  have s1 : (w.alloc (.cells #[.int .i64 0] 3)).heap.size = w.heap.size + 1 := by simp
  refine ⟨BA, _, _, rfl, (tallyZ (w.heap.size + 1) w.heap.size n _ ?_ ?_).mono ?_⟩
  · rw [← s1]; exact ⟨by rw [World.cell?_alloc_at _ _ _ _ rfl]; rfl, by rw [World.cell?_alloc_at _ _ _ _ rfl]; rfl⟩
  · refine (B2.cell (p := ⟨w.heap.size, 0, none⟩) (by show w.heap.size < _; rw [s1]; omega)).trans ?_
    rw [World.cell?_alloc_at _ _ _ _ rfl]; rfl
  · rintro e w2 ⟨rfl, k⟩
    exact ⟨rfl, below_of BA (Kp.of_below (A := no) k) (fun b h => h.elim)⟩
theorem two_int (w : World) (x y : Value) (t t' : TypeId) : ((w.alloc (.cells #[x] t)).alloc (.cells #[y] t')).cell? ⟨w.heap.size, 0, none⟩ = some x ∧ ((w.alloc (.cells #[x] t)).alloc (.cells #[y] t')).cell? ⟨w.heap.size + 1, 0, none⟩ = some y := by
  have B2 : Below (w.alloc (.cells #[x] t)).heap.size (w.alloc (.cells #[x] t)) ((w.alloc (.cells #[x] t)).alloc (.cells #[y] t')) := (Below.refl _ _).alloc (Nat.le_refl _) _
  have s1 : (w.alloc (.cells #[x] t)).heap.size = w.heap.size + 1 := by simp
  constructor
  · refine (B2.cell (p := ⟨w.heap.size, 0, none⟩) (by show w.heap.size < _; rw [s1]; omega)).trans ?_
    rw [World.cell?_alloc_at _ _ _ _ rfl]; rfl
  · rw [← s1, World.cell?_alloc_at _ _ _ _ rfl]; rfl
theorem shape3 (a b n : Nat) (v : Value) (h1 : a < b) (h2 : b ≤ n) (hn : n ≤ 4611686018427387904) (w : World) :
    Calls Try.prog 14 #[.int .i64 3, .int .i64 a, .int .i64 b, v] w (Made w n (WL (lkR a b) 0 n).length) := by
  have IC : Hid (∀ w, Calls _ _ _ _ _) := fun w => rangedC a b w
  go_enter Try.func14, Try.ntmps14
  go_wp2_with fail
  refine (IC.out _).mono ?_
  rintro e w1 ⟨rfl, rfl⟩
  go_wp2
  go_ret
  have BA : Below w.heap.size w ((w.alloc (.cells #[.int .i64 a] 3)).alloc (.cells #[.int .i64 b] 3)) := ((Below.refl _ _).alloc (Nat.le_refl _) _).alloc (by simp) _
  refine ⟨BA, _, _, rfl, (tallyC (ShR w.heap.size (w.heap.size + 1) a b) n (by omega) hn _ (two_int _ _ _ _ _)).mono ?_⟩
  rintro e w2 ⟨rfl, _, k⟩
  exact ⟨rfl, below_of BA k (fun b h => h.elim)⟩
-- the places' shape
theorem cnt_zero {xs : List Int} (hr : Ris xs) : cnt xs 0 = 0 := cnt_is hr (Nat.zero_le _) (fun j h => by omega) (fun j _ h => by have := hr.1 j h; simpa using this)
theorem SM_new {w : World} {v : Value} {xs : List Int} (hr : Ris xs) (hR : ReadsI w v xs) (h1 : 1 ≤ xs.length) : ∃ g, g < w.heap.size ∧ SM w.heap.size g xs (cnt xs 0) (w.alloc (.cells #[v] 22)) := by
  obtain ⟨a, cap, rfl, hc, hh⟩ := hR
  obtain ⟨g, off, rfl, hh'⟩ := hh.resolve_left (by omega)
  clear hh
  have hh := hh'
  have hg := World.block_lt_of_cell? _ _ (hh 0 (by omega))
  have B2 : Below w.heap.size w (w.alloc (.cells #[.slice (some ⟨g, off, none⟩) xs.length cap] 22)) := (Below.refl _ _).alloc (Nat.le_refl _) _
  refine ⟨g, hg, fun e => ?_, Nat.lt_of_lt_of_le hg B2.size, .slice (some ⟨g, off, none⟩) xs.length cap, ?_, ?_⟩
  · have hg' : g < w.heap.size := hg
    omega
  · exact (heap_alloc_new w _).trans rfl
  · rw [cnt_zero hr, List.drop_zero]
    exact ⟨_, cap, rfl, hc, .inr ⟨off, rfl, fun i hi => (B2.cell (World.block_lt_of_cell? _ _ (hh i hi))).trans (hh i hi)⟩⟩
theorem ris_of {xs : List Int} {n : Int} (h : places xs n = 0) : Ris xs := by
  obtain ⟨h1, h2, h3, h4⟩ := places_ok h
  exact ⟨fun j hj => (h3 j hj).1, fun i j hij hj => by
    have := rise_lt h4 i (j - i - 1) (by omega)
    rwa [show i + (j - i - 1) + 1 = j by omega] at this⟩
theorem shape4 (a b : Int) (n : Nat) (v : Value) (xs : List Int) (hp : places xs n = 0) (hn : n ≤ 4611686018427387904) (w : World) (hR : ReadsI w v xs) :
    Calls Try.prog 14 #[.int .i64 4, .int .i64 a, .int .i64 b, v] w (Made w n (WL (lkM (natL xs)) 0 n).length) := by
  obtain ⟨p1, p2, p3, p4⟩ := places_ok hp
  have hr := ris_of hp
  obtain ⟨g, hg, hS⟩ := SM_new hr hR p1
  obtain ⟨va, vc, rfl, _⟩ := hR
  have HS : Hid (_ ∧ _) := ⟨hg, hS⟩
  have IC : Hid (∀ w, Calls _ _ _ _ _) := fun w => multiC va xs.length vc w
  obtain ⟨l, HL⟩ : ∃ l, Hid (xs.length = l) := ⟨_, rfl⟩
  have h1n : 1 ≤ n := by have := p3 0 (by omega); omega
  rw [HL.out] at IC HS ⊢
  have HP : Hid (_ ∧ _) := ⟨hr, p3⟩
  clear hS p3 p4 hp hr p1 p2
  go_enter Try.func14, Try.ntmps14
  go_wp2_with fail
  refine (IC.out _).mono ?_
  rintro e w1 ⟨rfl, rfl⟩
  go_wp2
  go_ret
  have BA : Below w.heap.size w (w.alloc (.cells #[.slice va l vc] 22)) := (Below.refl _ _).alloc (Nat.le_refl _) _
  refine ⟨BA, _, _, rfl, (tallyC (ShM w.heap.size g xs HP.out.1 (fun j hj => by have := (HP.out.2 j hj).2; omega)) n h1n hn _ HS.out.2).mono ?_⟩
  rintro e w2 ⟨rfl, _, k⟩
  exact ⟨rfl, below_of BA k (fun b h => by omega)⟩
set_option maxHeartbeats 1600000 in
theorem countC (kind a b n : Int) (v : Value) (xs : List Int) (w : World) (hR : ReadsI w v xs) (hz : xs.length ≤ 140737488355328) :
    Calls Try.prog 7 #[.int .i64 kind, .int .i64 a, .int .i64 b, .int .i64 n, v] w fun e w' => e = .returned (.tuple #[.int .i64 (cnt9 kind a b n xs).1, .int .i64 (cnt9 kind a b n xs).2]) ∧ Below w.heap.size w w' := by
  have RC : Hid (Calls _ _ _ _ _) := refuseC kind a b n v xs w hR hz
  by_cases h0 : ref9 kind a b n xs = 0
  · have hc : cnt9 kind a b n xs = (((num9 kind a b n xs : Nat) : Int), 0) := by unfold cnt9; rw [if_pos h0]
    have SC : Hid (Calls Try.prog 14 #[.int .i64 kind, .int .i64 a, .int .i64 b, v] w (Made w n.toNat (num9 kind a b n xs)) ∧ (n.toNat : Int) = n) := by
      have hr := h0
      unfold ref9 at hr
      by_cases k1 : kind < 1 ∨ 4 < kind
      · rw [if_pos k1] at hr; omega
      rw [if_neg k1] at hr
      by_cases k2 : n < 0 ∨ 4611686018427387904 < n
      · rw [if_pos k2] at hr; omega
      rw [if_neg k2] at hr
      obtain ⟨N, rfl⟩ : ∃ N : Nat, n = N := ⟨n.toNat, by omega⟩
      rw [Int.toNat_natCast]
      refine ⟨?_, rfl⟩
      unfold num9
      rw [Int.toNat_natCast]
      rcases (show kind = 1 ∨ kind = 2 ∨ kind = 3 ∨ kind = 4 by omega) with rfl | rfl | rfl | rfl
      · rw [if_pos rfl] at hr ⊢
        by_cases g : a < 0 ∨ (N : Int) ≤ a
        · rw [if_pos g] at hr; omega
        obtain ⟨A, rfl⟩ : ∃ A : Nat, a = A := ⟨a.toNat, by omega⟩
        exact shape1x A N b v (by omega) (by omega) w
      · rw [if_neg (by omega), if_pos rfl] at hr ⊢
        by_cases g : a < 0 ∨ (N : Int) < a
        · rw [if_pos g] at hr; omega
        obtain ⟨A, rfl⟩ : ∃ A : Nat, a = A := ⟨a.toNat, by omega⟩
        by_cases hA : A = 0
        · subst hA
          rw [if_pos (by rfl)]
          exact shape0x N b v w
        · rw [if_neg (by omega)]
          exact shape2x A N b v (by omega) (by omega) (by omega) w
      · rw [if_neg (by omega), if_neg (by omega), if_pos rfl] at hr ⊢
        by_cases g : a < 0 ∨ b ≤ a ∨ (N : Int) < b
        · rw [if_pos g] at hr; omega
        obtain ⟨A, rfl⟩ : ∃ A : Nat, a = A := ⟨a.toNat, by omega⟩
        obtain ⟨B, rfl⟩ : ∃ B : Nat, b = B := ⟨b.toNat, by omega⟩
        exact shape3 A B N v (by omega) (by omega) (by omega) w
      · rw [if_neg (by omega), if_neg (by omega), if_neg (by omega)] at hr ⊢
        exact shape4 a b N v xs hr (by omega) w hR
    rw [hc]
    rw [h0] at RC
    obtain ⟨t, HT⟩ : ∃ t, Hid (num9 kind a b n xs = t) := ⟨_, rfl⟩
    rw [HT.out] at SC ⊢
    obtain ⟨va, vc, rfl, _⟩ := hR
    clear h0 hc
    go_enter Try.func7, Try.ntmps7
    go_wp2_with fail
    refine RC.out.mono ?_
    rintro e w1 ⟨rfl, rfl⟩
    go_wp2_with fail
    refine SC.out.1.mono ?_
    rintro e w2 ⟨hb2, lg, lv, rfl, ht⟩
    rw [SC.out.2] at ht
    have TC : Hid (Calls _ _ _ _ _) := ht
    clear ht hb2
    go_wp2_with fail
    refine TC.out.mono ?_
    rintro e w3 ⟨rfl, hb3⟩
    have B3 : Hid (Below w1.heap.size w1 w3) := hb3
    clear hb3
    go_wp2
    go_ret2
    exact ⟨rfl, B3.out⟩
  · have hc : cnt9 kind a b n xs = (0, ref9 kind a b n xs) := by unfold cnt9; rw [if_neg h0]
    rw [hc]
    have q : (ref9 kind a b n xs == 0) = false := by rw [beq_eq_false_iff_ne]; exact h0
    obtain ⟨r, HT⟩ : ∃ r, Hid (ref9 kind a b n xs = r) := ⟨_, rfl⟩
    rw [HT.out] at RC q ⊢
    obtain ⟨va, vc, rfl, _⟩ := hR
    clear h0 hc
    go_enter Try.func7, Try.ntmps7
    go_wp2_with fail
    refine RC.out.mono ?_
    rintro e w1 ⟨rfl, rfl⟩
    go_wp2
    go_ret2
    exact ⟨rfl, Below.refl _ _⟩
end Go.Proofs.Ytgkhnjmbmbebiaa.cn
