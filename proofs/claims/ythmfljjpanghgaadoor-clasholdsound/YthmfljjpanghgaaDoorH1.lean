import Derived.Test.YthmfljjpanghgaaDoorG9
import Derived.Test.YthmfljjpanghgaaDoorG3
import Derived.Test.YthmfljjpanghgaaDoorG4
import Derived.Deep.DeepCutAuto
import Derived.BigQuiet
import Derived.Deep.RegionHeld3
namespace Go.Proofs.YthmfljjpanghgaaDoor.zb
open Go.RowKit Go.PlainAid
open Go.Proofs.YthmfljjpanghgaaDoor.pl Go.Proofs.YthmfljjpanghgaaDoor.pi Go.Proofs.YthmfljjpanghgaaDoor.pj Go.Proofs.YthmfljjpanghgaaDoor.rf Go.Proofs.YthmfljjpanghgaaDoor.ca Go.Proofs.YthmfljjpanghgaaDoor.cb Go.Proofs.YthmfljjpanghgaaDoor.cp Go.Proofs.YthmfljjpanghgaaDoor.ga Go.Proofs.YthmfljjpanghgaaDoor.aa Go.Proofs.YthmfljjpanghgaaDoor.ka Go.Proofs.YthmfljjpanghgaaDoor.kb Go.Proofs.YthmfljjpanghgaaDoor.kc Go.Proofs.YthmfljjpanghgaaDoor.kp Go.Proofs.YthmfljjpanghgaaDoor.lk Go.Proofs.YthmfljjpanghgaaDoor.mi Go.Proofs.YthmfljjpanghgaaDoor.lm Go.Proofs.YthmfljjpanghgaaDoor.co Go.Proofs.YthmfljjpanghgaaDoor.cn Go.Proofs.YthmfljjpanghgaaDoor.qb Go.Proofs.YthmfljjpanghgaaDoor.qc Go.Proofs.YthmfljjpanghgaaDoor.qg Go.Proofs.YthmfljjpanghgaaDoor.qj Go.Proofs.YthmfljjpanghgaaDoor.qm Go.Proofs.YthmfljjpanghgaaDoor.za
set_option linter.unusedVariables false

-- the law's own: does one of the places lie there?
def sm (xs : List Int) (a b : Int) : Bool := xs.any fun x => decide (a ≤ x) && decide (x < b)
theorem sm_hit {xs : List Int} {a b : Int} {k : Nat} (hk : k < xs.length) (h1 : a ≤ xs.getD k 0) (h2 : xs.getD k 0 < b) : sm xs a b = true := by
  unfold sm
  rw [List.any_eq_true]
  refine ⟨xs.getD k 0, ?_, by rw [decide_eq_true h1, decide_eq_true h2]; rfl⟩
  rw [List.getD_eq_getElem?_getD, List.getElem?_eq_getElem hk]
  exact List.getElem_mem hk
theorem sm_none {xs : List Int} {a b : Int} (h : ∀ k, k < xs.length → ¬ (a ≤ xs.getD k 0 ∧ xs.getD k 0 < b)) : sm xs a b = false := by
  unfold sm
  rw [List.any_eq_false]
  intro x hx
  obtain ⟨j, hj, rfl⟩ := List.getElem_of_mem hx
  have := h j hj
  rw [List.getD_eq_getElem?_getD, List.getElem?_eq_getElem hj] at this
  simpa using this
theorem sm_lk {xs : List Int} (h0 : ∀ p ∈ xs, (0 : Int) ≤ p) (a b : Nat) : lkM (natL xs) a b = if sm xs a b = true then (if b - a = 1 then 0 else 2) else 1 := by
  have e : (∃ p ∈ natL xs, a ≤ p ∧ p < b) ↔ sm xs a b = true := by
    unfold sm natL
    rw [List.any_eq_true]
    constructor
    · rintro ⟨p, hp, h1, h2⟩
      obtain ⟨x, hx, rfl⟩ := List.mem_map.1 hp
      have := h0 x hx
      exact ⟨x, hx, by rw [decide_eq_true (by omega), decide_eq_true (by omega)]; rfl⟩
    · rintro ⟨x, hx, h⟩
      rw [Bool.and_eq_true, decide_eq_true_eq, decide_eq_true_eq] at h
      have := h0 x hx
      exact ⟨x.toNat, List.mem_map.2 ⟨x, hx, rfl⟩, by omega, by omega⟩
  unfold lkM
  by_cases h : ∃ p ∈ natL xs, a ≤ p ∧ p < b
  · rw [if_pos h, if_pos (e.1 h)]
  · rw [if_neg h, if_neg (fun q => h (e.2 q))]
set_option maxHeartbeats 1600000 in
theorem someC (v : Value) (xs : List Int) (a b : Int) (w : World) (hR : ReadsI w v xs) (hz : xs.length ≤ 140737488355328) :
    Calls Tryd.prog 34 #[v, .int .i64 a, .int .i64 b] w fun e w' => e = .returned (.bool (sm xs a b)) ∧ w' = w := by
  obtain ⟨va, cap, rfl, hcap, hh⟩ := hR
  have HC : Hid (xs.length = 0 ∨ ∃ b off, va = some ⟨b, off, none⟩ ∧ ∀ i, i < xs.length → w.cell? ⟨b, off + i, none⟩ = some (.int .i64 (xs.getD i 0))) := hh
  have HIT : Hid (∀ k, k < xs.length → a ≤ xs.getD k 0 → xs.getD k 0 < b → sm xs a b = true) := fun k h1 h2 h3 => sm_hit h1 h2 h3
  have NO : Hid ((∀ k, k < xs.length → ¬ (a ≤ xs.getD k 0 ∧ xs.getD k 0 < b)) → sm xs a b = false) := sm_none
  obtain ⟨n, HN⟩ : ∃ n, Hid (xs.length = n) := ⟨_, rfl⟩
  obtain ⟨r, HR⟩ : ∃ r, Hid (sm xs a b = r) := ⟨_, rfl⟩
  rw [HR.out] at HIT NO ⊢
  rw [HN.out] at HC HIT NO hcap hz ⊢
  clear hh
  go_enter Tryd.func34, Tryd.ntmps34
  go_wp2
  go_loopw [7] (fun i wr => ∃ k : Nat, k ≤ n ∧ i = .int .i64 k ∧ Hid (∀ j, j < k → ¬ (a ≤ xs.getD j 0 ∧ xs.getD j 0 < b)) ∧ w = wr) (fun i _ => (n - intOf i).toNat)
  case atStart => exact ⟨0, by omega, rfl, fun j h => by omega, rfl⟩
  case round =>
    obtain ⟨k, hk, rfl, HS, rfl⟩ := hrel
    by_cases hlt : k < n
    · have hlt' : (k : Int) < n := by omega
      obtain ⟨bb, off, rfl, hc⟩ : ∃ b off, va = some ⟨b, off, none⟩ ∧ ∀ i, i < n → w.cell? ⟨b, off + i, none⟩ = some (.int .i64 (xs.getD i 0)) := by
        rcases HC.out with h | h
        · omega
        · exact h
      have c1 := hc k hlt
      have H1 : Hid (a ≤ xs.getD k 0 → xs.getD k 0 < b → r = true) := HIT.out k hlt
      have H2 : Hid (¬ (a ≤ xs.getD k 0 ∧ xs.getD k 0 < b) → ∀ j, j < k + 1 → ¬ (a ≤ xs.getD j 0 ∧ xs.getD j 0 < b)) := fun h j hj => by
        by_cases e : j = k
        · subst e; exact h
        · exact HS.out j (by omega)
      obtain ⟨x, HX⟩ : ∃ x, Hid (xs.getD k 0 = x) := ⟨_, rfl⟩
      rw [HX.out] at c1 H1 H2
      by_cases h1 : a ≤ x
      · by_cases h2 : x < b
        · have HE : Hid (r = true) := H1.out h1 h2
          clear hc
          go_wp2
          go_ret
          exact ⟨by first | (rw [HE.out]; done) | (rw [HE.out]; rfl), rfl⟩
        · have HS1 : Hid (∀ j, j < k + 1 → ¬ (a ≤ xs.getD j 0 ∧ xs.getD j 0 < b)) := H2.out (fun h => h2 h.2)
          clear hc
          go_wp2
          go_roundw
          case rel => exact ⟨k + 1, by omega, by go_num, HS1.out, by first | rfl | trivial⟩
          case measure => simp [intOf]; omega
      · have HS1 : Hid (∀ j, j < k + 1 → ¬ (a ≤ xs.getD j 0 ∧ xs.getD j 0 < b)) := H2.out (fun h => h1 h.1)
        clear hc
        go_wp2
        go_roundw
        case rel => exact ⟨k + 1, by omega, by go_num, HS1.out, by first | rfl | trivial⟩
        case measure => simp [intOf]; omega
    · have hlt' : ¬ (k : Int) < n := by omega
      have HE : Hid (r = false) := NO.out (fun j hj => HS.out j (by omega))
      go_wp2
      go_ret
      exact ⟨by first | (rw [HE.out]; done) | (rw [HE.out]; rfl), rfl⟩
theorem half_of {n t j : Nat} (hj : 2 ^ j = t) (h1 : t < n) (h2 : ¬ 2 * t < n) : half n = t := by
  subst hj
  exact half_eq h1 (by rw [Nat.pow_succ]; omega)
theorem splitC (n : Nat) (h : 2 ≤ n) (hn : n ≤ 4611686018427387904) (w : World) :
    Calls Tryd.prog 37 #[.int .i64 n] w fun e w' => e = .returned (.int .i64 (half n : Nat)) ∧ w' = w := by
  obtain ⟨d, HD⟩ : ∃ d, Hid ((n - 1) / 2 = d) := ⟨_, rfl⟩
  have hd2 : ((n : Int) - 1) / 2 = (d : Int) := by have := HD.out; omega
  go_enter Tryd.func37, Tryd.ntmps37
  go_wp2
  go_loopw [3] (fun k wr => ∃ (t j : Nat), k = .int .i64 t ∧ t < n ∧ Hid (2 ^ j = t) ∧ wr = w) (fun k _ => (n - intOf k).toNat)
  case atStart => exact ⟨1, 0, rfl, by omega, rfl, rfl⟩
  case round =>
    obtain ⟨t, j, rfl, ht, HJ, rfl⟩ := hrel
    have ht0 : 0 < t := by rw [← HJ.out]; exact Nat.pow_pos (by decide)
    by_cases hlt : t ≤ d
    · have hlt' : (t : Int) ≤ d := by omega
      have HJ2 : Hid (2 ^ (j + 1) = 2 * t) := by show _ = _; rw [Nat.pow_succ, HJ.out, Nat.mul_comm]
      have hlt2 : 2 * t < n := by have := HD.out; omega
      go_wp2
      go_roundw
      case rel => exact ⟨2 * t, j + 1, by go_num, hlt2, HJ2.out, by first | rfl | trivial⟩
      case measure => simp [intOf]; omega
    · have hlt' : ¬ (t : Int) ≤ d := by omega
      have HE : Hid (half n = t) := half_of HJ.out ht (by have := HD.out; omega)
      go_wp2
      go_ret
      exact ⟨by rw [HE.out]; rfl, by first | rfl | trivial⟩
theorem half7 : half 7 = 4 := by decide
theorem half4 : half 4 = 2 := by decide
theorem half2 : half 2 = 1 := by decide
theorem seven : cnt9 1 3 0 7 [] = (3, 0) := by
  have h : ref9 1 3 0 7 [] = 0 := by decide
  unfold cnt9
  rw [if_pos h]
  unfold num9
  rw [if_pos rfl, show (3 : Int).toNat = 3 from rfl, show (7 : Int).toNat = 7 from rfl, incl_is 3 7 0 7 rfl (by omega) (by omega), List.length_reverse,
    dnI_low (i := 3) (a := 0) (b := 7) (by omega) (by rw [half7]; omega), half7, dnI_high (i := 3) (a := 0) (b := 0 + 4) (by omega) (by rw [show 0 + 4 - 0 = 4 from rfl, half4]; omega), show 0 + 4 - 0 = 4 from rfl, half4,
    dnI_high (i := 3) (a := 0 + 2) (b := 0 + 4) (by omega) (by rw [show 0 + 4 - (0 + 2) = 2 from rfl, half2]; omega), show 0 + 4 - (0 + 2) = 2 from rfl, half2, dnI_one (by omega)]
  rfl
theorem begunC (w : World) : Calls Tryd.prog 7 #[] w fun e w' => e = .returned (.bool true) ∧ Below w.heap.size w w' := by
  have C : Hid (Calls _ _ _ _ _) := countC 1 3 0 7 (.slice none 0 0) [] w ⟨none, 0, rfl, Nat.le_refl _, .inl rfl⟩ (by simp)
  rw [seven] at C
  go_enter Tryd.func7, Tryd.ntmps7
  go_wp2_with fail
  refine C.out.mono ?_
  rintro e w1 ⟨rfl, hb⟩
  have B : Hid (Below w.heap.size w w1) := hb
  clear hb
  go_wp2
  go_ret
  exact ⟨rfl, B.out⟩
-- are two lists unlike?
theorem ext_T {a b : List ByteArray} (h : a.length = b.length) (e : ∀ k, k < a.length → a.getD k ByteArray.empty = b.getD k ByteArray.empty) : a = b := by
  refine List.ext_getElem h fun i h1 h2 => ?_
  have := e i h1
  rwa [List.getD_eq_getElem?_getD, List.getElem?_eq_getElem h1, List.getD_eq_getElem?_getD, List.getElem?_eq_getElem h2] at this
set_option maxHeartbeats 1600000 in
theorem unlikeC (va vb : Value) (xs ys : List ByteArray) (w : World) (hA : ReadsT w va xs) (hB : ReadsT w vb ys) (hz : xs.length ≤ 140737488355328) :
    Calls Tryd.prog 9 #[va, vb] w fun e w' => e = .returned (.bool (decide (xs ≠ ys))) ∧ Below w.heap.size w w' := by
  obtain ⟨aa, acap, rfl, hac, hah⟩ := hA
  obtain ⟨ba, bcap, rfl, hbc, hbh⟩ := hB
  by_cases hl : xs.length = ys.length
  · have HC : Hid (xs.length = 0 ∨ ∃ b off, aa = some ⟨b, off, none⟩ ∧ ∀ i, i < xs.length → w.cell? ⟨b, off + i, none⟩ = some (.string (xs.getD i ByteArray.empty))) := hah
    have HD : Hid (ys.length = 0 ∨ ∃ b off, ba = some ⟨b, off, none⟩ ∧ ∀ i, i < ys.length → w.cell? ⟨b, off + i, none⟩ = some (.string (ys.getD i ByteArray.empty))) := hbh
    have HIT : Hid (∀ k, k < xs.length → xs.getD k ByteArray.empty ≠ ys.getD k ByteArray.empty → decide (xs ≠ ys) = true) := fun k _ h => decide_eq_true fun e => h (by rw [e])
    have NO : Hid ((∀ k, k < xs.length → xs.getD k ByteArray.empty = ys.getD k ByteArray.empty) → decide (xs ≠ ys) = false) := fun h => decide_eq_false fun e => e (ext_T hl h)
    rw [← hl] at HD hbc ⊢
    obtain ⟨n, HN⟩ : ∃ n, Hid (xs.length = n) := ⟨_, rfl⟩
    obtain ⟨r, HR⟩ : ∃ r, Hid (decide (xs ≠ ys) = r) := ⟨_, rfl⟩
    rw [HR.out] at HIT NO ⊢
    rw [HN.out] at HC HD HIT NO hac hbc hz ⊢
    have q : ((n : Int) != n) = false := by rw [bne_self_eq_false]
    clear hah hbh hl
    go_enter Tryd.func9, Tryd.ntmps9
    go_wp2
    go_loopw [5] (fun i wr => ∃ k m : Nat, k ≤ n ∧ i = .int .i64 k ∧ Hid (∀ j, j < k → xs.getD j ByteArray.empty = ys.getD j ByteArray.empty) ∧ wr = w.drewN m) (fun i _ => (n - intOf i).toNat)
    case atStart => exact ⟨0, 0, by omega, rfl, fun j h => by omega, rfl⟩
    case round =>
      obtain ⟨k, m, hk, rfl, HS, rfl⟩ := hrel
      by_cases hlt : k < n
      · have hlt' : (k : Int) < n := by omega
        obtain ⟨b1, o1, rfl, hc1⟩ : ∃ b off, aa = some ⟨b, off, none⟩ ∧ ∀ i, i < n → w.cell? ⟨b, off + i, none⟩ = some (.string (xs.getD i ByteArray.empty)) := by
          rcases HC.out with h | h
          · omega
          · exact h
        obtain ⟨b2, o2, rfl, hc2⟩ : ∃ b off, ba = some ⟨b, off, none⟩ ∧ ∀ i, i < n → w.cell? ⟨b, off + i, none⟩ = some (.string (ys.getD i ByteArray.empty)) := by
          rcases HD.out with h | h
          · omega
          · exact h
        have c1 := hc1 k hlt
        have c2 := hc2 k hlt
        have H1 : Hid (xs.getD k ByteArray.empty ≠ ys.getD k ByteArray.empty → r = true) := HIT.out k hlt
        have H2 : Hid (xs.getD k ByteArray.empty = ys.getD k ByteArray.empty → ∀ j, j < k + 1 → xs.getD j ByteArray.empty = ys.getD j ByteArray.empty) := fun h j hj => by
          by_cases e : j = k
          · subst e; exact h
          · exact HS.out j (by omega)
        obtain ⟨x, HX⟩ : ∃ x, Hid (xs.getD k ByteArray.empty = x) := ⟨_, rfl⟩
        obtain ⟨y, HY⟩ : ∃ y, Hid (ys.getD k ByteArray.empty = y) := ⟨_, rfl⟩
        rw [HX.out] at c1 H1 H2
        rw [HY.out] at c2 H1 H2
        by_cases hxy : x = y
        · have qe : (x.toList == y.toList) = true := by rw [beqL]; exact decide_eq_true hxy
          have HS1 : Hid _ := H2.out hxy
          clear hc1 hc2 hxy
          go_wp2_with fail
          go_quiet (fail)
          go_wp2
          go_roundw
          case rel => exact ⟨k + 1, _, by omega, by go_num, HS1.out, rfl⟩
          case measure => simp [intOf]; omega
        · have qe : (x.toList == y.toList) = false := by rw [beqL]; exact decide_eq_false hxy
          have HE : Hid (r = true) := H1.out hxy
          clear hc1 hc2 hxy
          go_wp2_with fail
          go_quiet (fail)
          go_wp2
          go_ret
          exact ⟨by first | (rw [HE.out]; done) | (rw [HE.out]; rfl), below_dN (below_dN (Below.refl _ _) _) _⟩
      · have hlt' : ¬ (k : Int) < n := by omega
        have HE : Hid (r = false) := NO.out (fun j hj => HS.out j (by omega))
        go_wp2
        go_ret
        exact ⟨by first | (rw [HE.out]; done) | (rw [HE.out]; rfl), below_dN (Below.refl _ _) _⟩
  · have q : ((xs.length : Int) != ys.length) = true := by rw [bne_iff_ne]; omega
    have q1 : (xs.length == ys.length) = false := by rw [beq_eq_false_iff_ne]; exact hl
    have q2 : ((xs.length : Int) == ys.length) = false := by rw [beq_eq_false_iff_ne]; omega
    have HE : Hid (decide (xs ≠ ys) = true) := decide_eq_true fun e => hl (by rw [e])
    rw [HE.out]
    obtain ⟨l1, HL1⟩ : ∃ n, Hid (xs.length = n) := ⟨_, rfl⟩
    obtain ⟨l2, HL2⟩ : ∃ n, Hid (ys.length = n) := ⟨_, rfl⟩
    rw [HL1.out] at q q1 q2 hl ⊢
    rw [HL2.out] at q q1 q2 hl ⊢
    clear hah hbh
    go_enter Tryd.func9, Tryd.ntmps9
    go_wp2
    go_ret
    exact ⟨rfl, Below.refl _ _⟩

-- a claim that is being reckoned
structure Wx (w0 : World) (base xb : Nat) (vh vp : Value) (u m : Nat) (T : List ByteArray) (w : World) : Prop where
  fr : Below w0.heap.size w0 w
  lo : w0.heap.size ≤ xb
  lt : xb < base
  le : base ≤ w.heap.size
  box : ∃ vt, w.heap[xb]? = some (.cells #[vh, vp, .int .i64 u, .int .i64 m, vt] 32 (0, 0)) ∧ w.ownsRow base 9 1 vt T.length (T.map Value.string)
def FX (base xb : Nat) (b : Nat) : Prop := b = xb ∨ base ≤ b
theorem Wx.later {w0 : World} {base xb : Nat} {vh vp : Value} {u m : Nat} {T : List ByteArray} {w w' : World} (h : Wx w0 base xb vh vp u m T w) (hb : Below w.heap.size w w') : Wx w0 base xb vh vp u m T w' := by
  obtain ⟨vt, R, own⟩ := h.box
  exact ⟨over h.fr hb, h.lo, h.lt, Nat.le_trans h.le hb.size, vt, (hb.block _ (Array.getElem?_eq_some_iff.1 R).1).trans R, own_later own hb⟩
theorem own_set {w : World} {B b : Nat} {v : Value} {n : Nat} {xs : List Value} (h : w.ownsRow B 9 1 v n xs) (hb : b < B) (o : Nat) (x : Value) : (w.setCell ⟨b, o, none⟩ x).ownsRow B 9 1 v n xs := by
  refine ⟨h.1, ?_⟩
  rcases h.2 with hn | ⟨g, cap, cur, rfl, hg, hgg, rest⟩
  · exact .inl hn
  · exact .inr ⟨g, cap, cur, rfl, hg, by rw [(Kp.setCell (A := fun k => k = b) w b o x rfl).block g (Array.getElem?_eq_some_iff.1 hgg).1 (by omega)]; exact hgg, rest⟩
set_option maxHeartbeats 1600000 in
theorem takeC (w0 : World) (base xb : Nat) (vh vp : Value) (l : List ByteArray) (hl : ReadsT w0 vp l) (zl : l.length ≤ 140737488355328) (u m : Nat) (T : List ByteArray) (w : World) (hW : Wx w0 base xb vh vp u m T w) (hu : u < l.length) :
    Calls Tryd.prog 35 #[.pointer (some ⟨xb, 0, none⟩)] w fun e w' => e = .returned (.string (l.getD u ByteArray.empty)) ∧ Wx w0 base xb vh vp (u + 1) m T w' ∧ Kp (FX base xb) w w' := by
  obtain ⟨hfr, hlo, hlt, hle, vt, R, own⟩ := hW
  obtain ⟨w4, HW4⟩ : ∃ x, x = w.setCell ⟨xb, 2, none⟩ (.int .i64 ((u : Int) + 1)) := ⟨_, rfl⟩
  have fr4 : Below w0.heap.size w0 w4 := by rw [HW4]; exact hfr.setCell (p := ⟨xb, 2, none⟩) hlo _
  have R4 : w4.heap[xb]? = some (.cells #[vh, vp, .int .i64 ((u : Int) + 1), .int .i64 m, vt] 32 (0, 0)) := by rw [HW4]; exact heap_setCell_same _ _ 2 _ _ _ R
  have k4 : Kp (FX base xb) w w4 := by rw [HW4]; exact Kp.setCell _ _ _ _ (.inl rfl)
  have own4 : w4.ownsRow base 9 1 vt T.length (T.map Value.string) := by rw [HW4]; exact own_set own hlt _ _
  have sz4 : base ≤ w4.heap.size := Nat.le_trans hle k4.size
  obtain ⟨pa, pc, rfl, hpc, hh⟩ := hl.later fr4
  obtain ⟨g, off, rfl, hc⟩ := hh.resolve_left (by omega)
  have x1 := hc _ hu
  have c0 : w.cell? ⟨xb, 2, none⟩ = some (.int .i64 u) := cell_of_row _ _ 2 _ _ _ R
  have f0 := frozen_of_row _ _ 2 _ _ R
  have c1 : w4.cell? ⟨xb, 2, none⟩ = some (.int .i64 ((u : Int) + 1)) := cell_of_row _ _ 2 _ _ _ R4
  have c2 : w4.cell? ⟨xb, 1, none⟩ = some (.slice (some ⟨g, off, none⟩) l.length pc) := cell_of_row _ _ 1 _ _ _ R4
  have END : Hid (Wx w0 base xb _ _ (u + 1) m T w4 ∧ Kp (FX base xb) w w4) := ⟨⟨fr4, hlo, hlt, sz4, vt, R4, own4⟩, k4⟩
  obtain ⟨n, HN⟩ : ∃ n, Hid (l.length = n) := ⟨_, rfl⟩
  obtain ⟨x, HX⟩ : ∃ x, Hid (l.getD u ByteArray.empty = x) := ⟨_, rfl⟩
  rw [HX.out] at x1 ⊢
  rw [HN.out] at c2 hu zl hpc END ⊢
  have hlt1 : ¬ (n : Int) < (u : Int) + 1 := by omega
  have hlt2 : (u : Int) < n := by omega
  clear hl hfr R R4 k4 own own4 hc hh fr4 sz4
  go_enter Tryd.func35, Tryd.ntmps35
  go_upto_region 2 with fail
  rw [← HW4]
  clear HW4 c0 f0
  go_quiet (fail)
  go_wp2_with fail
  go_quiet (fail)
  go_wp2
  go_ret
  exact ⟨rfl, END.out.1.later (below_dN (below_dN (Below.refl _ _) _) _), END.out.2.trans (Kp.of_below (below_dN (below_dN (Below.refl _ _) _) _))⟩
set_option maxHeartbeats 1600000 in
theorem meetC (w0 : World) (base xb : Nat) (vh vp : Value) (l : List ByteArray) (hl : ReadsT w0 vh l) (zl : l.length ≤ 140737488355328) (u m : Nat) (T : List ByteArray) (w : World) (hW : Wx w0 base xb vh vp u m T w) (hu : m < l.length) :
    Calls Tryd.prog 36 #[.pointer (some ⟨xb, 0, none⟩)] w fun e w' => e = .returned (.string (l.getD m ByteArray.empty)) ∧ Wx w0 base xb vh vp u (m + 1) T w' ∧ Kp (FX base xb) w w' := by
  obtain ⟨hfr, hlo, hlt, hle, vt, R, own⟩ := hW
  obtain ⟨w4, HW4⟩ : ∃ x, x = w.setCell ⟨xb, 3, none⟩ (.int .i64 ((m : Int) + 1)) := ⟨_, rfl⟩
  have fr4 : Below w0.heap.size w0 w4 := by rw [HW4]; exact hfr.setCell (p := ⟨xb, 3, none⟩) hlo _
  have R4 : w4.heap[xb]? = some (.cells #[vh, vp, .int .i64 u, .int .i64 ((m : Int) + 1), vt] 32 (0, 0)) := by rw [HW4]; exact heap_setCell_same _ _ 3 _ _ _ R
  have k4 : Kp (FX base xb) w w4 := by rw [HW4]; exact Kp.setCell _ _ _ _ (.inl rfl)
  have own4 : w4.ownsRow base 9 1 vt T.length (T.map Value.string) := by rw [HW4]; exact own_set own hlt _ _
  have sz4 : base ≤ w4.heap.size := Nat.le_trans hle k4.size
  obtain ⟨pa, pc, rfl, hpc, hh⟩ := hl.later fr4
  obtain ⟨g, off, rfl, hc⟩ := hh.resolve_left (by omega)
  have x1 := hc _ hu
  have c0 : w.cell? ⟨xb, 3, none⟩ = some (.int .i64 m) := cell_of_row _ _ 3 _ _ _ R
  have f0 := frozen_of_row _ _ 3 _ _ R
  have c1 : w4.cell? ⟨xb, 3, none⟩ = some (.int .i64 ((m : Int) + 1)) := cell_of_row _ _ 3 _ _ _ R4
  have c2 : w4.cell? ⟨xb, 0, none⟩ = some (.slice (some ⟨g, off, none⟩) l.length pc) := cell_of_row _ _ 0 _ _ _ R4
  have END : Hid (Wx w0 base xb _ _ u (m + 1) T w4 ∧ Kp (FX base xb) w w4) := ⟨⟨fr4, hlo, hlt, sz4, vt, R4, own4⟩, k4⟩
  obtain ⟨n, HN⟩ : ∃ n, Hid (l.length = n) := ⟨_, rfl⟩
  obtain ⟨x, HX⟩ : ∃ x, Hid (l.getD m ByteArray.empty = x) := ⟨_, rfl⟩
  rw [HX.out] at x1 ⊢
  rw [HN.out] at c2 hu zl hpc END ⊢
  have hlt1 : ¬ (n : Int) < (m : Int) + 1 := by omega
  have hlt2 : (m : Int) < n := by omega
  clear hl hfr R R4 k4 own own4 hc hh fr4 sz4
  go_enter Tryd.func36, Tryd.ntmps36
  go_upto_region 2 with fail
  rw [← HW4]
  clear HW4 c0 f0
  go_quiet (fail)
  go_wp2_with fail
  go_quiet (fail)
  go_wp2
  go_ret
  exact ⟨rfl, END.out.1.later (below_dN (below_dN (Below.refl _ _) _) _), END.out.2.trans (Kp.of_below (below_dN (below_dN (Below.refl _ _) _) _))⟩
end Go.Proofs.YthmfljjpanghgaaDoor.zb

namespace Go.Proofs.YthmfljjpanghgaaDoor.zc
open Go.RowKit Go.PlainAid
open Go.Proofs.YthmfljjpanghgaaDoor.pl Go.Proofs.YthmfljjpanghgaaDoor.pi Go.Proofs.YthmfljjpanghgaaDoor.pj Go.Proofs.YthmfljjpanghgaaDoor.rf Go.Proofs.YthmfljjpanghgaaDoor.ca Go.Proofs.YthmfljjpanghgaaDoor.cb Go.Proofs.YthmfljjpanghgaaDoor.cp Go.Proofs.YthmfljjpanghgaaDoor.ga Go.Proofs.YthmfljjpanghgaaDoor.aa Go.Proofs.YthmfljjpanghgaaDoor.ka Go.Proofs.YthmfljjpanghgaaDoor.kb Go.Proofs.YthmfljjpanghgaaDoor.kc Go.Proofs.YthmfljjpanghgaaDoor.kp Go.Proofs.YthmfljjpanghgaaDoor.lk Go.Proofs.YthmfljjpanghgaaDoor.mi Go.Proofs.YthmfljjpanghgaaDoor.lm Go.Proofs.YthmfljjpanghgaaDoor.co Go.Proofs.YthmfljjpanghgaaDoor.cn Go.Proofs.YthmfljjpanghgaaDoor.qb Go.Proofs.YthmfljjpanghgaaDoor.qc Go.Proofs.YthmfljjpanghgaaDoor.qg Go.Proofs.YthmfljjpanghgaaDoor.qj Go.Proofs.YthmfljjpanghgaaDoor.qm Go.Proofs.YthmfljjpanghgaaDoor.za Go.Proofs.YthmfljjpanghgaaDoor.zb
set_option linter.unusedVariables false

theorem tx_count (wd : Int) (lk : Nat → Nat → Nat) (n : Nat) : ∀ a b c p, b - a = n → a < b → (tx wd lk c p a b).length + 1 ≤ b - a := by
  induction n using Nat.strongRecOn with
  | ind n ih =>
    intro a b c p hn hab
    by_cases h : 2 ≤ lk a b ∧ 2 ≤ b - a
    · have hh := half_lt h.2
      rw [tx_in h.1 h.2]
      have i1 := ih (half (b - a)) (by omega) a (a + half (b - a)) c p (by omega) (by omega)
      have i2 := ih (b - a - half (b - a)) (by omega) (a + half (b - a)) b (gp wd lk c p a (a + half (b - a))).2.1 (gp wd lk c p a (a + half (b - a))).2.2 (by omega) (by omega)
      simp only [List.length_append, List.length_cons, List.length_nil]
      omega
    · rw [tx, dif_neg h]
      simp; omega
theorem tx_wide (wd : Int) {lk : Nat → Nat → Nat} (hw : ∀ {a b}, a < b → 2 ≤ lk a b → 2 ≤ b - a) (hf : ∀ a b, lk a b ≤ 2) (n : Nat) : ∀ a b c p, b - a = n → a < b → Wide wd c → Wide wd p → (WL (fl lk) a b).length ≤ c.length → (WL lk a b).length ≤ p.length → ∀ x ∈ tx wd lk c p a b, x.size ≤ 1000 := by
  induction n using Nat.strongRecOn with
  | ind n ih =>
    intro a b c p hn hab w1 w2 l1 l2 x hx
    have hf3 : ∀ a b, lk a b ≤ 3 := fun a b => Nat.le_trans (hf a b) (by decide)
    by_cases h : 2 ≤ lk a b
    · have h2 := hw hab h
      have hh := half_lt h2
      have h4 : lk a b = 2 := by have := hf a b; omega
      have s1 := gp_state wd hw hf3 (show a < a + half (b - a) by omega) c p
      rw [tx_in h h2, s1] at hx
      rw [WL_left (lk := fl lk) (by rw [fl_two (by omega)]; exact h4) h2, List.length_append] at l1
      rw [WL_left h4 h2, List.length_append] at l2
      rw [List.mem_append, List.mem_append, List.mem_singleton] at hx
      rcases hx with hx | hx | hx
      · exact ih (half (b - a)) (by omega) a (a + half (b - a)) c p (by omega) (by omega) w1 w2 (by omega) (by omega) x hx
      · exact ih (b - a - half (b - a)) (by omega) (a + half (b - a)) b _ _ (by omega) (by omega) (wide_drop w1 _) (wide_drop w2 _) (by rw [List.length_drop]; omega) (by rw [List.length_drop]; omega) x hx
      · have z1 := gp_size wd hw hf3 (show a < a + half (b - a) by omega) w1 w2 (by omega) (by omega)
        have z2 := gp_size wd hw hf3 (show a + half (b - a) < b by omega) (wide_drop w1 (WL (fl lk) a (a + half (b - a))).length) (wide_drop w2 (WL lk a (a + half (b - a))).length) (by rw [List.length_drop]; omega) (by rw [List.length_drop]; omega)
        have z3 := qb.wid_le wd
        rw [hx, nt_size, z1, z2]
        omega
    · rw [tx_stop (by omega)] at hx
      cases hx
theorem kp_base {base xb : Nat} {w w' : World} (h : Below base w w') : Kp (FX base xb) w w' := ⟨h.os, h.tape, h.output, h.size, fun k _ hn => h.block k (by unfold FX at hn; omega)⟩
def Hsd (wd : Int) (w0 : World) (base xb : Nat) (vh vp : Value) (hs proof : List ByteArray) (xs : List Int) (a b u m : Nat) (T : List ByteArray) (w : World) (e : Ending) (w' : World) : Prop :=
  e = .returned (.string (gp wd (lkM (natL xs)) (hs.drop m) (proof.drop u) a b).1) ∧ Wx w0 base xb vh vp (u + (WL (lkM (natL xs)) a b).length) (m + (WL (fl (lkM (natL xs))) a b).length) (T ++ tx wd (lkM (natL xs)) (hs.drop m) (proof.drop u) a b) w' ∧ Kp (FX base xb) w w'
set_option maxRecDepth 100000 in
set_option maxHeartbeats 6400000 in
theorem hashC (wd : Int) (w0 : World) (base xb : Nat) (vh vp va : Value) (hs proof : List ByteArray) (xs : List Int) (hh : ReadsT w0 vh hs) (hp : ReadsT w0 vp proof) (hx : ReadsI w0 va xs) (hT : Tab w0) (zh : hs.length ≤ 140737488355328) (zp : proof.length ≤ 140737488355328) (zx : xs.length ≤ 140737488355328) (wh : Wide wd hs) (wp : Wide wd proof) (h0 : ∀ p ∈ xs, (0 : Int) ≤ p) (n : Nat) :
    ∀ (a b u m : Nat) (T : List ByteArray) (w : World), b - a = n → a < b → b ≤ 4611686018427387904 → Wx w0 base xb vh vp u m T w → u + (WL (lkM (natL xs)) a b).length ≤ proof.length → m + (WL (fl (lkM (natL xs))) a b).length ≤ hs.length → T.length + (b - a) ≤ 4194304 →
    Calls Tryd.prog 10 #[.pointer (some ⟨xb, 0, none⟩), .int .i64 wd, .int .i64 a, .int .i64 b, va] w (Hsd wd w0 base xb vh vp hs proof xs a b u m T w) := by
  induction n using Nat.strongRecOn with
  | ind n ih =>
    intro a b u m T w hn hab hb hW lp lh lT
    have SC : Hid (Calls _ _ _ _ _) := someC va xs a b w (hx.later hW.fr) zx
    have hlk := sm_lk h0 a b
    obtain ⟨s, HS⟩ : ∃ s, Hid (sm xs a b = s) := ⟨_, rfl⟩
    rw [HS.out] at SC hlk
    cases s
    · rw [if_neg (by decide)] at hlk
      rw [WL_take hlk] at lp
      have TC : Hid (Calls _ _ _ _ _) := takeC w0 base xb vh vp proof hp zp u m T w hW (by simp at lp; omega)
      have FIN : Hid (gp wd (lkM (natL xs)) (hs.drop m) (proof.drop u) a b = (proof.getD u ByteArray.empty, hs.drop m, (proof.drop u).drop 1) ∧ tx wd (lkM (natL xs)) (hs.drop m) (proof.drop u) a b = [] ∧ (WL (lkM (natL xs)) a b).length = 1 ∧ (WL (fl (lkM (natL xs))) a b).length = 0) :=
        ⟨by rw [gp_proof hlk, headD_drop], tx_stop (by omega), by rw [WL_take hlk]; rfl, by rw [WL_pass (lk := fl (lkM (natL xs))) (by unfold fl; rw [if_neg (by omega), if_pos hlk])]; rfl⟩
      obtain ⟨x, HX⟩ : ∃ x, Hid (proof.getD u ByteArray.empty = x) := ⟨_, rfl⟩
      rw [HX.out] at TC FIN
      clear ih hh hp hx hT wh wp h0 hlk lp lh hW
      go_enter Tryd.func10, Tryd.ntmps10
      go_wp2_with fail
      refine SC.out.mono ?_
      rintro e w1 ⟨rfl, hw⟩
      subst hw
      go_wp2_with fail
      refine TC.out.mono ?_
      rintro e w2 ⟨rfl, q1, q2⟩
      have Q : Hid (Wx w0 base xb vh vp (u + 1) m T w2 ∧ Kp (FX base xb) w1 w2) := ⟨q1, q2⟩
      clear q1 q2
      go_wp2
      go_ret
      unfold Hsd
      rw [FIN.out.1, FIN.out.2.1, FIN.out.2.2.1, FIN.out.2.2.2, List.append_nil]
      exact ⟨rfl, Q.out.1, Q.out.2⟩
    · rw [if_pos rfl] at hlk
      by_cases h1 : b - a = 1
      · rw [if_pos h1] at hlk
        rw [WL_take (lk := fl (lkM (natL xs))) (by unfold fl; rw [if_pos hlk])] at lh
        have TC : Hid (Calls _ _ _ _ _) := meetC w0 base xb vh vp hs hh zh u m T w hW (by simp at lh; omega)
        have FIN : Hid (gp wd (lkM (natL xs)) (hs.drop m) (proof.drop u) a b = (hs.getD m ByteArray.empty, (hs.drop m).drop 1, proof.drop u) ∧ tx wd (lkM (natL xs)) (hs.drop m) (proof.drop u) a b = [] ∧ (WL (lkM (natL xs)) a b).length = 0 ∧ (WL (fl (lkM (natL xs))) a b).length = 1) :=
          ⟨by rw [gp_claim hlk, headD_drop], tx_stop (by omega), by rw [WL_pass hlk]; rfl, by rw [WL_take (lk := fl (lkM (natL xs))) (by unfold fl; rw [if_pos hlk])]; rfl⟩
        obtain ⟨x, HX⟩ : ∃ x, Hid (hs.getD m ByteArray.empty = x) := ⟨_, rfl⟩
        rw [HX.out] at TC FIN
        have q0 : ((b : Int) - a == 1) = true := by rw [beq_iff_eq]; omega
        clear ih hh hp hx hT wh wp h0 hlk lp lh hW
        go_enter Tryd.func10, Tryd.ntmps10
        go_wp2_with fail
        refine SC.out.mono ?_
        rintro e w1 ⟨rfl, hw⟩
        subst hw
        go_wp2_with fail
        refine TC.out.mono ?_
        rintro e w2 ⟨rfl, q1, q2⟩
        have Q : Hid (Wx w0 base xb vh vp u (m + 1) T w2 ∧ Kp (FX base xb) w1 w2) := ⟨q1, q2⟩
        clear q1 q2
        go_wp2
        go_ret
        unfold Hsd
        rw [FIN.out.1, FIN.out.2.1, FIN.out.2.2.1, FIN.out.2.2.2, List.append_nil]
        exact ⟨rfl, Q.out.1, Q.out.2⟩
      · rw [if_neg h1] at hlk
        have h2 : 2 ≤ b - a := by omega
        have hf := half_lt h2
        have hf3 : ∀ a b, lkM (natL xs) a b ≤ 3 := fun a b => fourM _ _ _
        have SP : Hid (∀ w, Calls _ _ _ _ _) := fun w => splitC (b - a) h2 (by omega) w
        have w1e := WL_left hlk h2
        have w2e := WL_left (lk := fl (lkM (natL xs))) (by rw [fl_two (by omega)]; exact hlk) h2
        rw [w1e, List.length_append] at lp
        rw [w2e, List.length_append] at lh
        have st := gp_state wd (lk := lkM (natL xs)) wideM hf3 (show a < a + half (b - a) by omega) (hs.drop m) (proof.drop u)
        rw [List.drop_drop, List.drop_drop] at st
        have tc := tx_count wd (lkM (natL xs)) (half (b - a)) a (a + half (b - a)) (hs.drop m) (proof.drop u) (by omega) (by omega)
        have tc2 := tx_count wd (lkM (natL xs)) (b - a - half (b - a)) (a + half (b - a)) b (hs.drop (m + (WL (fl (lkM (natL xs))) a (a + half (b - a))).length)) (proof.drop (u + (WL (lkM (natL xs)) a (a + half (b - a))).length)) (by omega) (by omega)
        have I1 : Hid (Calls _ _ _ _ _) := ih (half (b - a)) (by omega) a (a + half (b - a)) u m T w (by omega) (by omega) (by omega) hW (by omega) (by omega) (by omega)
        have I2 : Hid (∀ T1 w1, Wx w0 base xb vh vp (u + (WL (lkM (natL xs)) a (a + half (b - a))).length) (m + (WL (fl (lkM (natL xs))) a (a + half (b - a))).length) T1 w1 → T1.length = T.length + (tx wd (lkM (natL xs)) (hs.drop m) (proof.drop u) a (a + half (b - a))).length → Calls _ _ _ _ _) := fun T1 w1 h hl1 => ih (b - a - half (b - a)) (by omega) (a + half (b - a)) b _ _ T1 w1 (by omega) (by omega) hb h (by omega) (by omega) (by omega)
        have z1 := gp_size wd (lk := lkM (natL xs)) wideM hf3 (show a < a + half (b - a) by omega) (wide_drop wh m) (wide_drop wp u) (by rw [List.length_drop]; omega) (by rw [List.length_drop]; omega)
        have z2 := gp_size wd (lk := lkM (natL xs)) wideM hf3 (show a + half (b - a) < b by omega) (wide_drop wh (m + (WL (fl (lkM (natL xs))) a (a + half (b - a))).length)) (wide_drop wp (u + (WL (lkM (natL xs)) a (a + half (b - a))).length)) (by rw [List.length_drop]; omega) (by rw [List.length_drop]; omega)
        have z3 := qb.wid_le wd
        have FIN : Hid (gp wd (lkM (natL xs)) (hs.drop m) (proof.drop u) a b = _ ∧ tx wd (lkM (natL xs)) (hs.drop m) (proof.drop u) a b = _ ∧ (WL (lkM (natL xs)) a b).length = _ ∧ (WL (fl (lkM (natL xs))) a b).length = _) := ⟨gp_left hlk h2, tx_in (by omega) h2, by rw [w1e, List.length_append], by rw [w2e, List.length_append]⟩
        rw [st] at FIN
        unfold Hsd at I1 I2
        simp only at FIN
        obtain ⟨k, HK⟩ : ∃ k, Hid (half (b - a) = k) := ⟨_, rfl⟩
        rw [HK.out] at SP I1 I2 FIN tc tc2 z1 z2 hf
        obtain ⟨n1, HN1⟩ : ∃ q, Hid ((WL (lkM (natL xs)) a (a + k)).length = q) := ⟨_, rfl⟩
        obtain ⟨n2, HN2⟩ : ∃ q, Hid ((WL (fl (lkM (natL xs))) a (a + k)).length = q) := ⟨_, rfl⟩
        rw [HN1.out] at I1 I2 FIN tc2 z2
        rw [HN2.out] at I1 I2 FIN tc2 z2
        obtain ⟨l1, HL1⟩ : ∃ q, Hid ((gp wd (lkM (natL xs)) (hs.drop m) (proof.drop u) a (a + k)).1 = q) := ⟨_, rfl⟩
        obtain ⟨r1, HR1⟩ : ∃ q, Hid ((gp wd (lkM (natL xs)) (hs.drop (m + n2)) (proof.drop (u + n1)) (a + k) b).1 = q) := ⟨_, rfl⟩
        obtain ⟨TL, HTL⟩ : ∃ q, Hid (tx wd (lkM (natL xs)) (hs.drop m) (proof.drop u) a (a + k) = q) := ⟨_, rfl⟩
        obtain ⟨TR, HTR⟩ : ∃ q, Hid (tx wd (lkM (natL xs)) (hs.drop (m + n2)) (proof.drop (u + n1)) (a + k) b = q) := ⟨_, rfl⟩
        rw [HL1.out] at I1 FIN z1
        rw [HR1.out] at I2 FIN z2
        rw [HTL.out] at I1 I2 FIN tc
        rw [HTR.out] at I2 FIN tc2
        have zl : l1.size ≤ 32 := by omega
        have zr : r1.size ≤ 32 := by omega
        obtain ⟨y, HY⟩ : ∃ y, Hid (nt l1 r1 = y) := ⟨_, rfl⟩
        have CUT : Hid (∀ w', Below w0.heap.size w0 w' → Calls _ _ _ _ _) := fun w' hb' => cutT (nt l1 r1) wd w' (by rw [nt_size]; omega) (hT.down hb')
        obtain ⟨z, HZ⟩ : ∃ z, Hid (cutS (nt l1 r1) wd = z) := ⟨_, rfl⟩
        rw [NF_nt, HZ.out, HY.out] at FIN
        rw [HZ.out] at CUT
        have zc1 : ((a + k : Nat) : Int) = (a : Int) + k := by omega
        have zc2 : ((b - a : Nat) : Int) = (b : Int) - a := by omega
        rw [zc1] at I1 I2
        rw [zc2] at SP
        have q0 : ((b : Int) - a == 1) = false := by rw [beq_eq_false_iff_ne]; omega
        obtain ⟨i9, hi, hz0, hz1, hz2⟩ := ts.info_parts ts.hiE
        have HIN : Hid (_ ∧ _ ∧ _ ∧ _) := ⟨hi, hz0, hz1, hz2⟩
        have MO : Hid (∀ u ∈ [(Value.string (nt l1 r1))], u.oneCell' = true) := fun u hu => by simp only [List.mem_cons, List.not_mem_nil, or_false] at hu; subst hu; rfl
        have HLT : Hid (T.length + (TL.length + 1) ≤ 4194304 ∧ T.length + (TL.length + 1) + (TR.length + 1) ≤ 4194304) := ⟨by omega, by omega⟩
        unfold nt at CUT MO HY
        clear ih hh hp hx hT wh wp h0 hlk lp lh hW w1e w2e st tc tc2 z1 z2 z3 hi hz0 hz1 hz2 hf3 lT h1 h2
        go_enter Tryd.func10, Tryd.ntmps10
        go_wp2_with fail
        refine SC.out.mono ?_
        rintro e w1 ⟨rfl, hw⟩
        subst hw
        go_wp2_with fail
        refine (SP.out _).mono ?_
        rintro e w2 ⟨rfl, hw⟩
        subst hw
        go_wp2_with fail
        refine I1.out.mono ?_
        rintro e w3 ⟨rfl, q1, q2⟩
        have Q2 : Hid (Kp (FX base xb) w2 w3) := q2
        have I3 : Hid (Calls _ _ _ _ _) := I2.out _ w3 q1 (by rw [List.length_append])
        clear q1 q2
        go_wp2_with fail
        refine I3.out.mono ?_
        rintro e w4 ⟨rfl, q3, q4⟩
        have Q4 : Hid (Kp (FX base xb) w2 w4) := Q2.out.trans q4
        obtain ⟨hfr, hlo, hlt, hle, vt, R, own⟩ := q3
        obtain ⟨nT, HNT⟩ : ∃ q, Hid ((T ++ TL ++ TR).length = q) := ⟨_, rfl⟩
        have hnT : nT ≤ 4194304 := by have h1 := HNT.out; have h2 := HLT.out; rw [List.length_append, List.length_append] at h1; omega
        rw [HNT.out] at own
        obtain ⟨ta, tcap, rfl⟩ := ts.own_form own
        have c4 : w4.cell? ⟨xb, 4, none⟩ = some (.slice ta nT tcap) := cell_of_row _ _ 4 _ _ _ R
        have BA : Below w4.heap.size w4 (w4.alloc (.cells #[.string ((⟨#[1]⟩ : ByteArray) ++ l1 ++ r1)] 9)) := (Below.refl _ _).alloc (Nat.le_refl _) _
        have O2 : Hid ((w4.alloc (.cells #[.string ((⟨#[1]⟩ : ByteArray) ++ l1 ++ r1)] 9)).ownsRow base 9 1 (.slice ta nT tcap) nT ((T ++ TL ++ TR).map Value.string)) := own_later own BA
        have NW : Hid _ := ts.new_one w4 (.string ((⟨#[1]⟩ : ByteArray) ++ l1 ++ r1)) 9
        have B2 : Hid (Below base w4 (w4.alloc (.cells #[.string ((⟨#[1]⟩ : ByteArray) ++ l1 ++ r1)] 9)) ∧ base ≤ (w4.alloc (.cells #[.string ((⟨#[1]⟩ : ByteArray) ++ l1 ++ r1)] 9)).heap.size) := ⟨BA.mono hle, Nat.le_trans hle BA.size⟩
        have ST : Hid (Below w0.heap.size w0 w4 ∧ w0.heap.size ≤ xb ∧ xb < base ∧ base ≤ w4.heap.size ∧ w4.heap[xb]? = _) := ⟨hfr, hlo, hlt, hle, R⟩
        clear q4 R own hfr hlo hle BA hlt
        go_upto_region 9 with (at_builtin; refine wpList_append_own _ rfl _ _ 23 rfl base 9 i9 (.string ByteArray.empty) 1 16 Tryd.underlying23 HIN.out.1 HIN.out.2.1 HIN.out.2.2.1 HIN.out.2.2.2 rfl (by decide) _ nT _ rfl O2.out ⟨w4.heap.size, 0, none⟩ 1 1 [(Value.string ((⟨#[1]⟩ : ByteArray) ++ l1 ++ r1))] rfl rfl NW.out MO.out (by unfold maxLen; omega) (by omega) B2.out.2 ?_; intro p' w5 ho hg hnn; have HB5 : Hid (Below base w4 w5) := Below.grown B2.out.1 hg B2.out.2 (fun jj hj => (O2.out.lt _ hj).1); obtain ⟨pa', pc', rfl⟩ := ts.own_form ho; have HO5 : Hid (w5.ownsRow base 9 1 (.slice pa' (nT + 1) pc') (nT + 1) _) := ho; have R5 : Hid (w5.heap[xb]? = _) := (HB5.out.block xb ST.out.2.2.1).trans ST.out.2.2.2.2; have f5 := frozen_of_row _ _ 4 _ _ R5.out; have c5 : w5.cell? ⟨xb, 4, none⟩ = some (.slice ta nT tcap) := cell_of_row _ _ 4 _ _ _ R5.out; clear ho hg hnn)
        have R6 : Hid ((w5.setCell ⟨xb, 4, none⟩ (.slice pa' (nT + 1) pc')).heap[xb]? = _) := heap_setCell_same _ _ 4 _ _ _ R5.out
        have S6 : Hid (Below w0.heap.size w0 (w5.setCell ⟨xb, 4, none⟩ (.slice pa' (nT + 1) pc')) ∧ base ≤ (w5.setCell ⟨xb, 4, none⟩ (.slice pa' (nT + 1) pc')).heap.size ∧ Kp (FX base xb) w2 (w5.setCell ⟨xb, 4, none⟩ (.slice pa' (nT + 1) pc'))) := by
          have k5 : Kp (FX base xb) w4 w5 := kp_base HB5.out
          have k6 : Kp (FX base xb) w5 (w5.setCell ⟨xb, 4, none⟩ (.slice pa' (nT + 1) pc')) := Kp.setCell _ _ _ _ (.inl rfl)
          exact ⟨(ST.out.1.trans (HB5.out.mono (by have := ST.out.2.1; have := ST.out.2.2.1; omega))).setCell (p := ⟨xb, 4, none⟩) ST.out.2.1 _, Nat.le_trans ST.out.2.2.2.1 (k5.trans k6).size, Q4.out.trans (k5.trans k6)⟩
        have E6 : Hid (Wx w0 base xb vh vp (u + n1 + (WL (lkM (natL xs)) (a + k) b).length) (m + n2 + (WL (fl (lkM (natL xs))) (a + k) b).length) (T ++ TL ++ TR ++ [y]) (w5.setCell ⟨xb, 4, none⟩ (.slice pa' (nT + 1) pc'))) := by
          refine ⟨S6.out.1, ST.out.2.1, ST.out.2.2.1, S6.out.2.1, _, R6.out, ?_⟩
          rw [List.length_append, HNT.out, List.map_append, ← HY.out]
          exact own_set HO5.out ST.out.2.2.1 _ _
        have C6 : Hid (Calls _ _ _ _ _) := CUT.out _ S6.out.1
        generalize w5.setCell ⟨xb, 4, none⟩ (.slice pa' (nT + 1) pc') = w6 at *
        clear f5 c5 c4
        go_wp2_with fail
        refine C6.out.mono ?_
        rintro e w7 ⟨rfl, hb7⟩
        have B7 : Hid (Below w6.heap.size w6 w7) := hb7
        clear hb7
        go_wp2
        go_ret
        unfold Hsd
        rw [FIN.out.1, FIN.out.2.1, FIN.out.2.2.1, FIN.out.2.2.2]
        refine ⟨rfl, ?_, S6.out.2.2.trans (Kp.of_below B7.out)⟩
        have := E6.out.later B7.out
        rw [← Nat.add_assoc, ← Nat.add_assoc, ← List.append_assoc, ← List.append_assoc]
        exact this
end Go.Proofs.YthmfljjpanghgaaDoor.zc

namespace Go.Proofs.YthmfljjpanghgaaDoor.zd
open Go.RowKit Go.PlainAid
open Go.Proofs.YthmfljjpanghgaaDoor.pl Go.Proofs.YthmfljjpanghgaaDoor.pi Go.Proofs.YthmfljjpanghgaaDoor.pj Go.Proofs.YthmfljjpanghgaaDoor.rf Go.Proofs.YthmfljjpanghgaaDoor.ca Go.Proofs.YthmfljjpanghgaaDoor.cb Go.Proofs.YthmfljjpanghgaaDoor.cp Go.Proofs.YthmfljjpanghgaaDoor.ga Go.Proofs.YthmfljjpanghgaaDoor.aa Go.Proofs.YthmfljjpanghgaaDoor.ka Go.Proofs.YthmfljjpanghgaaDoor.kb Go.Proofs.YthmfljjpanghgaaDoor.kc Go.Proofs.YthmfljjpanghgaaDoor.kp Go.Proofs.YthmfljjpanghgaaDoor.lk Go.Proofs.YthmfljjpanghgaaDoor.mi Go.Proofs.YthmfljjpanghgaaDoor.lm Go.Proofs.YthmfljjpanghgaaDoor.co Go.Proofs.YthmfljjpanghgaaDoor.cn Go.Proofs.YthmfljjpanghgaaDoor.qb Go.Proofs.YthmfljjpanghgaaDoor.qc Go.Proofs.YthmfljjpanghgaaDoor.qg Go.Proofs.YthmfljjpanghgaaDoor.qj Go.Proofs.YthmfljjpanghgaaDoor.qm Go.Proofs.YthmfljjpanghgaaDoor.za Go.Proofs.YthmfljjpanghgaaDoor.zb Go.Proofs.YthmfljjpanghgaaDoor.zc
set_option linter.unusedVariables false

set_option maxRecDepth 100000 in
set_option maxHeartbeats 6400000 in
theorem clashC (wd : Int) (va vb : Value) (xs ys : List ByteArray) (w : World) (hA : ReadsT w va xs) (hB : ReadsT w vb ys) (hl : ys.length = xs.length) (hz : xs.length ≤ 140737488355328) (sx : ∀ x ∈ xs, x.size ≤ 1000) (sy : ∀ x ∈ ys, x.size ≤ 1000) (hT : Tab w) (hcl : clA wd xs ys) :
    Calls Tryd.prog 11 #[.int .i64 wd, va, vb] w fun e w' => e = .returned (.bool true) ∧ Below w.heap.size w w' := by
  have RA : Hid (∀ w', Below w.heap.size w w' → ReadsT w' va xs ∧ ReadsT w' vb ys ∧ Tab w') := fun w' hb => ⟨hA.later hb, hB.later hb, hT.down hb⟩
  obtain ⟨aa, acap, rfl, hac, _⟩ := hA
  obtain ⟨ba, bcap, rfl, hbc, _⟩ := hB
  have CELL : Hid (∀ w', Below w.heap.size w w' → ∀ k, k < xs.length → ∃ b1 o1 b2 o2, aa = some ⟨b1, o1, none⟩ ∧ ba = some ⟨b2, o2, none⟩ ∧ ∀ W, Below w.heap.size w W → W.cell? ⟨b1, o1 + k, none⟩ = some (.string (xs.getD k ByteArray.empty)) ∧ W.cell? ⟨b2, o2 + k, none⟩ = some (.string (ys.getD k ByteArray.empty))) := by
    intro w' hb k hk
    obtain ⟨⟨a1, c1, e1, _, h1⟩, ⟨a2, c2, e2, _, h2⟩, _⟩ := RA.out w' hb
    obtain ⟨b1, o1, rfl, _⟩ := h1.resolve_left (by omega)
    obtain ⟨b2, o2, rfl, _⟩ := h2.resolve_left (by omega)
    injection e1 with e1 _ _
    injection e2 with e2 _ _
    refine ⟨b1, o1, b2, o2, e1, e2, fun W hW => ?_⟩
    obtain ⟨⟨a1', c1', e1', _, h1'⟩, ⟨a2', c2', e2', _, h2'⟩, _⟩ := RA.out W hW
    injection e1' with e1' _ _
    injection e2' with e2' _ _
    obtain ⟨b1', o1', rfl, q1⟩ := h1'.resolve_left (by omega)
    obtain ⟨b2', o2', rfl, q2⟩ := h2'.resolve_left (by omega)
    rw [e1] at e1'
    rw [e2] at e2'
    injection e1' with e1'
    injection e2' with e2'
    injection e1' with x1 x2 _
    injection e2' with x3 x4 _
    subst x1 x2 x3 x4
    exact ⟨q1 k hk, q2 k (by omega)⟩
  have CT : Hid (∀ k, k < xs.length → ∀ W, Below w.heap.size w W → ∀ t, (t = xs.getD k ByteArray.empty ∨ t = ys.getD k ByteArray.empty) → Calls Tryd.prog 17 #[.string t, .int .i64 wd] W fun e w' => (∃ r, e = .returned (.string r) ∧ (t = xs.getD k ByteArray.empty → r = cutS (xs.getD k ByteArray.empty) wd) ∧ (t = ys.getD k ByteArray.empty → r = cutS (ys.getD k ByteArray.empty) wd)) ∧ Below W.heap.size W w') := by
    intro k hk W hW t ht
    have hts : t.size ≤ 1000 := by
      rcases ht with rfl | rfl
      · rw [List.getD_eq_getElem?_getD, List.getElem?_eq_getElem hk]; exact sx _ (List.getElem_mem hk)
      · rw [List.getD_eq_getElem?_getD, List.getElem?_eq_getElem (by omega : k < ys.length)]; exact sy _ (List.getElem_mem _)
    exact (cutT t wd W (by omega) (RA.out W hW).2.2).mono fun e w' ⟨h1, h2⟩ => ⟨⟨_, h1, fun e => by rw [e], fun e => by rw [e]⟩, h2⟩
  have END : Hid (¬ ∀ k, k < xs.length → ¬ (xs.getD k ByteArray.empty ≠ ys.getD k ByteArray.empty ∧ cutS (xs.getD k ByteArray.empty) wd = cutS (ys.getD k ByteArray.empty) wd)) := by
    obtain ⟨i, h1, h2, h3, h4⟩ := hcl
    exact fun h => h i h1 ⟨h3, h4⟩
  rw [hl] at hbc ⊢
  obtain ⟨n, HN⟩ : ∃ n, Hid (xs.length = n) := ⟨_, rfl⟩
  rw [HN.out] at CELL CT END hac hbc hz ⊢
  have HB0 : Hid (Below w.heap.size w w) := Below.refl _ _
  clear RA hT hcl sx sy hl
  go_enter Tryd.func11, Tryd.ntmps11
  go_wp2
  go_loopw [7] (fun i wr => ∃ k : Nat, k ≤ n ∧ i = .int .i64 k ∧ Hid (∀ j, j < k → ¬ (xs.getD j ByteArray.empty ≠ ys.getD j ByteArray.empty ∧ cutS (xs.getD j ByteArray.empty) wd = cutS (ys.getD j ByteArray.empty) wd)) ∧ Hid (Below w.heap.size w wr)) (fun i _ => (n - intOf i).toNat)
  case atStart => exact ⟨0, by omega, rfl, fun j h => by omega, HB0.out⟩
  case round =>
    obtain ⟨k, hk, rfl, HS, HB⟩ := hrel
    by_cases hlt : k < n
    · have hlt' : (k : Int) < n := by omega
      obtain ⟨b1, o1, b2, o2, rfl, rfl, hcc⟩ := CELL.out _ HB.out k hlt
      have H2 : Hid (¬ (xs.getD k ByteArray.empty ≠ ys.getD k ByteArray.empty ∧ cutS (xs.getD k ByteArray.empty) wd = cutS (ys.getD k ByteArray.empty) wd) → ∀ j, j < k + 1 → ¬ (xs.getD j ByteArray.empty ≠ ys.getD j ByteArray.empty ∧ cutS (xs.getD j ByteArray.empty) wd = cutS (ys.getD j ByteArray.empty) wd)) := fun h j hj => by
        by_cases e : j = k
        · subst e; exact h
        · exact HS.out j (by omega)
      have CC : Hid (∀ W, _ → ∀ t, _ → Calls _ _ _ _ _) := CT.out k hlt
      obtain ⟨x, HX⟩ : ∃ x, Hid (xs.getD k ByteArray.empty = x) := ⟨_, rfl⟩
      obtain ⟨y, HY⟩ : ∃ y, Hid (ys.getD k ByteArray.empty = y) := ⟨_, rfl⟩
      rw [HX.out, HY.out] at hcc CC H2
      obtain ⟨cx, HCX⟩ : ∃ c, Hid (cutS x wd = c) := ⟨_, rfl⟩
      obtain ⟨cy, HCY⟩ : ∃ c, Hid (cutS y wd = c) := ⟨_, rfl⟩
      rw [HCX.out, HCY.out] at CC H2
      have S4 : Hid (∀ W, Below w.heap.size w W → Below w.heap.size w W ∧ W.cell? ⟨b1, o1 + k, none⟩ = some (.string x) ∧ W.cell? ⟨b2, o2 + k, none⟩ = some (.string y)) := fun W h => ⟨h, hcc W h⟩
      obtain ⟨_, y1, y2⟩ := S4.out _ HB.out
      have DR : Hid (Below w.heap.size w (World.drew _)) := HB.out.drew
      by_cases hxy : x = y
      · have qe : (x.toList == y.toList) = true := by rw [beqL]; exact decide_eq_true hxy
        have HS1 : Hid _ := H2.out (fun h => h.1 hxy)
        clear hcc hxy
        go_wp2_with fail
        go_quiet (fail)
        go_wp2
        go_roundw
        case rel => exact ⟨k + 1, by omega, by go_num, HS1.out, below_dN HB.out _⟩
        case measure => simp [intOf]; omega
      · have qe : (x.toList == y.toList) = false := by rw [beqL]; exact decide_eq_false hxy
        by_cases hc : cx = cy
        · have qc : (cx.toList == cy.toList) = true := by rw [beqL]; exact decide_eq_true hc
          clear hcc
          go_upto_region 4 with fail
          go_cut [43] from 8 to 43 (fun c wx => c = .bool true ∧ Hid (Below w.heap.size w wx))
          case first =>
            go_region_held3 (fun W => Below w.heap.size w W ∧ W.cell? ⟨b1, o1 + k, none⟩ = some (.string x) ∧ W.cell? ⟨b2, o2 + k, none⟩ = some (.string y)) (first | exact S4.out _ HWF.out | exact S4.out _ DR.out) (first | (go_at_call 17; refine (CC.out _ (And.left (by assumption)) _ (by first | exact .inl rfl | exact .inr rfl)).mono ?_; rintro _ wf ⟨⟨r, rfl, e1, e2⟩, bb⟩; have HWF : Hid (Below w.heap.size w wf) := over (And.left (by assumption)) bb; first | (obtain rfl := e1 rfl) | (obtain rfl := e2 rfl); clear e1 e2 bb))
            all_goals (go_wp2; go_meet; exact ⟨rfl, HWF.out⟩)
          case rest =>
            obtain ⟨rfl, HG⟩ := hcut
            go_wp2
            go_ret
            exact ⟨rfl, HG.out⟩
        · have qc : (cx.toList == cy.toList) = false := by rw [beqL]; exact decide_eq_false hc
          have HS1 : Hid _ := H2.out (fun h => hc h.2)
          clear hcc hc
          go_upto_region 4 with fail
          go_cut [43] from 8 to 43 (fun c wx => c = .bool false ∧ Hid (Below w.heap.size w wx))
          case first =>
            go_region_held3 (fun W => Below w.heap.size w W ∧ W.cell? ⟨b1, o1 + k, none⟩ = some (.string x) ∧ W.cell? ⟨b2, o2 + k, none⟩ = some (.string y)) (first | exact S4.out _ HWF.out | exact S4.out _ DR.out) (first | (go_at_call 17; refine (CC.out _ (And.left (by assumption)) _ (by first | exact .inl rfl | exact .inr rfl)).mono ?_; rintro _ wf ⟨⟨r, rfl, e1, e2⟩, bb⟩; have HWF : Hid (Below w.heap.size w wf) := over (And.left (by assumption)) bb; first | (obtain rfl := e1 rfl) | (obtain rfl := e2 rfl); clear e1 e2 bb))
            all_goals (go_wp2; go_meet; exact ⟨rfl, HWF.out⟩)
          case rest =>
            obtain ⟨rfl, HG⟩ := hcut
            go_wp2
            go_roundw
            case rel => exact ⟨k + 1, by omega, by go_num, HS1.out, HG.out⟩
            case measure => simp [intOf]; omega
    · exact absurd (fun j hj => HS.out j (by omega)) END.out
end Go.Proofs.YthmfljjpanghgaaDoor.zd
