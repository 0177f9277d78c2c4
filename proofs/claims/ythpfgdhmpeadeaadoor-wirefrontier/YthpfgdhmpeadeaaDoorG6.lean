import Derived.Test.YthpfgdhmpeadeaaDoorG1
import Derived.Test.YthpfgdhmpeadeaaDoorG5
import Derived.Test.YthpfgdhmpeadeaaDoorG4
namespace Go.Proofs.YthpfgdhmpeadeaaDoor.eo
open Go.RowKit Go.PlainAid
open Go.Proofs.YthpfgdhmpeadeaaDoor.ca Go.Proofs.YthpfgdhmpeadeaaDoor.cb Go.Proofs.YthpfgdhmpeadeaaDoor.cp Go.Proofs.YthpfgdhmpeadeaaDoor.ga Go.Proofs.YthpfgdhmpeadeaaDoor.aa Go.Proofs.YthpfgdhmpeadeaaDoor.ab Go.Proofs.YthpfgdhmpeadeaaDoor.ae Go.Proofs.YthpfgdhmpeadeaaDoor.mi Go.Proofs.YthpfgdhmpeadeaaDoor.lm Go.Proofs.YthpfgdhmpeadeaaDoor.co Go.Proofs.YthpfgdhmpeadeaaDoor.cn Go.Proofs.YthpfgdhmpeadeaaDoor.na Go.Proofs.YthpfgdhmpeadeaaDoor.nb Go.Proofs.YthpfgdhmpeadeaaDoor.nc Go.Proofs.YthpfgdhmpeadeaaDoor.ea
set_option linter.unusedVariables false

-- how many hashes a proof may have
theorem scan_in (f : Nat → Int) (hf : ∀ k, 0 ≤ f k ∧ f k ≤ 1000) (m : Nat) : ∀ k, 0 ≤ scan f m k ∧ scan f m k ≤ 1000 := by
  induction m with
  | zero => intro k; exact ⟨by simp [scan], by simp [scan]⟩
  | succ m ih =>
    intro k
    rw [scan]
    split
    · exact ih _
    · exact hf k
theorem places_in (xs : List Int) (n : Int) : 0 ≤ places xs n ∧ places xs n ≤ 1000 := by
  unfold places
  split
  · exact ⟨by decide, by decide⟩
  · split
    · exact ⟨by decide, by decide⟩
    · refine scan_in _ (fun k => ?_) _ _
      unfold bad
      split
      · exact ⟨by decide, by decide⟩
      · split
        · exact ⟨by decide, by decide⟩
        · split
          · exact ⟨by decide, by decide⟩
          · exact ⟨by decide, by decide⟩
theorem ref_in (kind a b n : Int) (xs : List Int) : 0 ≤ ref9 kind a b n xs ∧ ref9 kind a b n xs ≤ 1000 := by
  have hp := places_in xs n
  unfold ref9
  repeat' (first | exact hp | (split) | omega)
theorem ref_n {kind a b n : Int} {xs : List Int} (h : ref9 kind a b n xs = 0) : 1 ≤ kind ∧ kind ≤ 4 ∧ 0 ≤ n ∧ n ≤ 4611686018427387904 := by
  unfold ref9 at h
  by_cases k1 : kind < 1 ∨ 4 < kind
  · rw [if_pos k1] at h; omega
  rw [if_neg k1] at h
  by_cases k2 : n < 0 ∨ 4611686018427387904 < n
  · rw [if_pos k2] at h; omega
  omega
theorem num_le {kind a b n : Int} {xs : List Int} (h : ref9 kind a b n xs = 0) : num9 kind a b n xs ≤ 70000 := by
  obtain ⟨k1, k2, n1, n2⟩ := ref_n h
  obtain ⟨N, rfl⟩ : ∃ N : Nat, n = N := ⟨n.toNat, by omega⟩
  have hN62 : N ≤ 2 ^ 62 := by have : (2 : Nat) ^ 62 = 4611686018427387904 := by decide
                               omega
  unfold ref9 at h
  rw [if_neg (by omega), if_neg (by omega)] at h
  unfold num9
  rw [Int.toNat_natCast]
  by_cases e1 : kind = 1
  · rw [if_pos e1] at h ⊢
    by_cases g : a < 0 ∨ (N : Int) ≤ a
    · rw [if_pos g] at h; omega
    have := incl_len a.toNat 62 0 N (by omega) (by omega) (by omega)
    omega
  rw [if_neg e1] at h ⊢
  by_cases e2 : kind = 2
  · rw [if_pos e2] at h ⊢
    by_cases g : a < 0 ∨ (N : Int) < a
    · rw [if_pos g] at h; omega
    by_cases ha : a = 0
    · rw [if_pos ha]; omega
    · rw [if_neg ha]
      have := cons_len a.toNat 62 0 N (by omega) (by omega) (by omega)
      omega
  rw [if_neg e2] at h ⊢
  by_cases e3 : kind = 3
  · rw [if_pos e3] at h ⊢
    by_cases g : a < 0 ∨ b ≤ a ∨ (N : Int) < b
    · rw [if_pos g] at h; omega
    have := out_len a.toNat b.toNat 62 0 N (by omega) (by omega) (by omega) (by omega)
    omega
  rw [if_neg e3] at h ⊢
  obtain ⟨z1, z2, z3, z4⟩ := places_ok h
  have hne : inM (natL xs) 0 N ≠ [] := by
    intro e
    refine (inM_nil _ _ _).1 e ?_
    have h0 := z3 0 (by omega)
    exact ⟨_, natL_mem (j := 0) (by omega), by omega, by omega⟩
  have hN1 : 1 ≤ N := by have := z3 0 (by omega); omega
  have hl := multi_len (natL xs) 62 0 N (by omega) (by omega) hne
  have h5 : (inM (natL xs) 0 N).length ≤ xs.length := by
    unfold inM
    refine Nat.le_trans (List.length_filter_le _ _) ?_
    unfold natL
    rw [List.length_map]
    exact Nat.le_refl _
  have h6 := Nat.le_trans hl (Nat.mul_le_mul_right _ h5)
  omega
theorem cnt_in (kind a b n : Int) (xs : List Int) : 0 ≤ (cnt9 kind a b n xs).1 ∧ (cnt9 kind a b n xs).1 ≤ 70000 ∧ 0 ≤ (cnt9 kind a b n xs).2 ∧ (cnt9 kind a b n xs).2 ≤ 1000 := by
  unfold cnt9
  split
  · rename_i h
    have := num_le h
    refine ⟨by simp, ?_, by simp, by simp⟩
    show ((num9 kind a b n xs : Nat) : Int) ≤ 70000
    omega
  · have := ref_in kind a b n xs
    exact ⟨by simp, by simp, this.1, this.2⟩

-- a proof, as it is read
def MX : Int := 4611686018427387904
def kindS (b : ByteArray) (p : Nat) (e : Int) : Int × Nat × Int :=
  ((mostS b 4 110 p e).1, (mostS b 4 110 p e).2.1, if (mostS b 4 110 p e).1 < 1 then refu (mostS b 4 110 p e).2.2 110 else (mostS b 4 110 p e).2.2)
def plS (b : ByteArray) : Nat → Int → Nat → Int → List Int × Nat × Int
  | 0, _, p, e => ([], p, e)
  | n + 1, x, p, e => ((x + (mostS b (MX - x) 10 p e).1) :: (plS b n (x + (mostS b (MX - x) 10 p e).1 + 1) (mostS b (MX - x) 10 p e).2.1 (mostS b (MX - x) 10 p e).2.2).1,
      (plS b n (x + (mostS b (MX - x) 10 p e).1 + 1) (mostS b (MX - x) 10 p e).2.1 (mostS b (MX - x) 10 p e).2.2).2)
theorem plS_not (b : ByteArray) (n : Nat) : ∀ (x : Int) (p : Nat) (e : Int), e ≠ 0 → (plS b n x p e).2 = (p, e) := by
  induction n with
  | zero => intro x p e h; rfl
  | succ n ih =>
    intro x p e h
    rw [plS]
    show (plS b n _ _ _).2 = _
    rw [mostS_not b _ _ p e h]
    exact ih _ _ _ h
theorem plS_ok (b : ByteArray) (n : Nat) : ∀ (x : Int) (p : Nat) (e : Int), Ok b p e → Ok b (plS b n x p e).2.1 (plS b n x p e).2.2 ∧ (plS b n x p e).1.length = n := by
  induction n with
  | zero => intro x p e h; exact ⟨h, rfl⟩
  | succ n ih =>
    intro x p e h
    rw [plS]
    have h1 := (most_ok b (MX - x) 10 p e h (by decide)).1
    have := ih (x + (mostS b (MX - x) 10 p e).1 + 1) _ _ h1
    exact ⟨this.1, by show (_ :: _).length = _; rw [List.length_cons, this.2]⟩
-- the numbers that a kind names: A, B, Size, At, and the state behind them
structure Sh where
  a : Int
  b : Int
  n : Int
  at' : List Int
  p : Nat
  e : Int
def sh4 (b : ByteArray) (p : Nat) (e : Int) : Sh :=
  ⟨0, 0, (mostS b MX 10 (plS b (mostS b 1024 83 p e).1.toNat 0 (mostS b 1024 83 p e).2.1 (mostS b 1024 83 p e).2.2).2.1 (plS b (mostS b 1024 83 p e).1.toNat 0 (mostS b 1024 83 p e).2.1 (mostS b 1024 83 p e).2.2).2.2).1,
    (plS b (mostS b 1024 83 p e).1.toNat 0 (mostS b 1024 83 p e).2.1 (mostS b 1024 83 p e).2.2).1,
    (mostS b MX 10 (plS b (mostS b 1024 83 p e).1.toNat 0 (mostS b 1024 83 p e).2.1 (mostS b 1024 83 p e).2.2).2.1 (plS b (mostS b 1024 83 p e).1.toNat 0 (mostS b 1024 83 p e).2.1 (mostS b 1024 83 p e).2.2).2.2).2.1,
    (mostS b MX 10 (plS b (mostS b 1024 83 p e).1.toNat 0 (mostS b 1024 83 p e).2.1 (mostS b 1024 83 p e).2.2).2.1 (plS b (mostS b 1024 83 p e).1.toNat 0 (mostS b 1024 83 p e).2.1 (mostS b 1024 83 p e).2.2).2.2).2.2⟩
def sh1 (b : ByteArray) (p : Nat) (e : Int) : Sh :=
  ⟨(mostS b MX 10 p e).1, 0, (mostS b MX 10 (mostS b MX 10 p e).2.1 (mostS b MX 10 p e).2.2).1, [], (mostS b MX 10 (mostS b MX 10 p e).2.1 (mostS b MX 10 p e).2.2).2.1, (mostS b MX 10 (mostS b MX 10 p e).2.1 (mostS b MX 10 p e).2.2).2.2⟩
def sh3 (b : ByteArray) (p : Nat) (e : Int) : Sh :=
  ⟨(mostS b MX 10 p e).1, (sh1 b (mostS b MX 10 p e).2.1 (mostS b MX 10 p e).2.2).a, (sh1 b (mostS b MX 10 p e).2.1 (mostS b MX 10 p e).2.2).n, [], (sh1 b (mostS b MX 10 p e).2.1 (mostS b MX 10 p e).2.2).p, (sh1 b (mostS b MX 10 p e).2.1 (mostS b MX 10 p e).2.2).e⟩
def shS (b : ByteArray) (k : Int) (p : Nat) (e : Int) : Sh := if k = 4 then sh4 b p e else if k = 3 then sh3 b p e else sh1 b p e
theorem sh1_ok (b : ByteArray) (p : Nat) (e : Int) (h : Ok b p e) : Ok b (sh1 b p e).p (sh1 b p e).e := (most_ok b MX 10 _ _ (most_ok b MX 10 p e h (by decide)).1 (by decide)).1
theorem sh3_ok (b : ByteArray) (p : Nat) (e : Int) (h : Ok b p e) : Ok b (sh3 b p e).p (sh3 b p e).e := sh1_ok b _ _ (most_ok b MX 10 p e h (by decide)).1
theorem sh4_ok (b : ByteArray) (p : Nat) (e : Int) (h : Ok b p e) : Ok b (sh4 b p e).p (sh4 b p e).e := (most_ok b MX 10 _ _ (plS_ok b _ 0 _ _ (most_ok b 1024 83 p e h (by decide)).1).1 (by decide)).1
theorem shS_ok (b : ByteArray) (k : Int) (p : Nat) (e : Int) (h : Ok b p e) : Ok b (shS b k p e).p (shS b k p e).e := by
  unfold shS
  split
  · exact sh4_ok b p e h
  · split
    · exact sh3_ok b p e h
    · exact sh1_ok b p e h
theorem kind_ok (b : ByteArray) (p : Nat) (e : Int) (h : Ok b p e) : Ok b (kindS b p e).2.1 (kindS b p e).2.2 ∧ 0 ≤ (kindS b p e).1 ∧ (kindS b p e).1 ≤ 4 := by
  obtain ⟨h1, h2, h3⟩ := most_ok b 4 110 p e h (by decide)
  refine ⟨⟨h1.1, ?_⟩, h2, by show (mostS b 4 110 p e).1 ≤ 4; omega⟩
  show 0 ≤ ite _ _ _ ∧ ite _ _ _ ≤ (1000 : Int)
  split
  · exact refu_ok _ _ ⟨h1.2.1, h1.2.2⟩ (by decide)
  · exact ⟨h1.2.1, h1.2.2⟩
-- the whole
def pW (b : ByteArray) : Int × Nat × Int := widthS b (markS b 80 0 0).1 (markS b 80 0 0).2
def pK (b : ByteArray) : Int × Nat × Int := kindS b (pW b).2.1 (pW b).2.2
def pSh (b : ByteArray) : Sh := shS b (pK b).1 (pK b).2.1 (pK b).2.2
def pCt (b : ByteArray) : Int × Int := cnt9 (pK b).1 (pSh b).a (pSh b).b (pSh b).n (pSh b).at'
def pHs (b : ByteArray) : List ByteArray × Nat × Int := hashesS b (pW b).1.toNat (pCt b).1.toNat (pSh b).p (refu (pSh b).e (pCt b).2)
def pE (b : ByteArray) : Int := endS b (pHs b).2.1 (pHs b).2.2
theorem ok0 (b : ByteArray) : Ok b 0 0 := ⟨Nat.zero_le _, by decide, by decide⟩
theorem pW_ok (b : ByteArray) : Ok b (pW b).2.1 (pW b).2.2 := width_ok b _ _ (mark_ok b 80 0 0 (ok0 b))
theorem pW_in (b : ByteArray) : 0 ≤ (pW b).1 ∧ (pW b).1 ≤ 255 := byte_in b _ _
theorem pK_ok (b : ByteArray) : Ok b (pK b).2.1 (pK b).2.2 := (kind_ok b _ _ (pW_ok b)).1
theorem pSh_ok (b : ByteArray) : Ok b (pSh b).p (pSh b).e := shS_ok b _ _ _ (pK_ok b)
theorem pRf_ok (b : ByteArray) : Ok b (pSh b).p (refu (pSh b).e (pCt b).2) := by
  have h := pSh_ok b
  have hc := cnt_in (pK b).1 (pSh b).a (pSh b).b (pSh b).n (pSh b).at'
  have := refu_ok (pSh b).e (pCt b).2 ⟨h.2.1, h.2.2⟩ ⟨hc.2.2.1, hc.2.2.2⟩
  exact ⟨h.1, this.1, this.2⟩
theorem pHs_ok (b : ByteArray) : Ok b (pHs b).2.1 (pHs b).2.2 := (hashes_ok b _ _ _ _ (pRf_ok b)).1
end Go.Proofs.YthpfgdhmpeadeaaDoor.eo

namespace Go.Proofs.YthpfgdhmpeadeaaDoor.ep
open Go.RowKit Go.PlainAid Go.Shelf
open Go.Proofs.YthpfgdhmpeadeaaDoor.ca Go.Proofs.YthpfgdhmpeadeaaDoor.cb Go.Proofs.YthpfgdhmpeadeaaDoor.cp Go.Proofs.YthpfgdhmpeadeaaDoor.ga Go.Proofs.YthpfgdhmpeadeaaDoor.kp Go.Proofs.YthpfgdhmpeadeaaDoor.na Go.Proofs.YthpfgdhmpeadeaaDoor.nb Go.Proofs.YthpfgdhmpeadeaaDoor.nc Go.Proofs.YthpfgdhmpeadeaaDoor.mi Go.Proofs.YthpfgdhmpeadeaaDoor.co Go.Proofs.YthpfgdhmpeadeaaDoor.cn Go.Proofs.YthpfgdhmpeadeaaDoor.ea Go.Proofs.YthpfgdhmpeadeaaDoor.eb Go.Proofs.YthpfgdhmpeadeaaDoor.ec Go.Proofs.YthpfgdhmpeadeaaDoor.ed Go.Proofs.YthpfgdhmpeadeaaDoor.ee Go.Proofs.YthpfgdhmpeadeaaDoor.eh Go.Proofs.YthpfgdhmpeadeaaDoor.eo Go.Proofs.YthpfgdhmpeadeaaDoor.ka Go.Proofs.YthpfgdhmpeadeaaDoor.bn
set_option linter.unusedVariables false

set_option maxHeartbeats 1600000 in
theorem kindC (T g : Nat) (b : ByteArray) (p : Nat) (e : Int) (rest : List Value) (w : World) (h : Rd T g b p e rest w) (hb : b.size ≤ 140737488355328) (hp : Ok b p e) :
    Calls Tryd.prog 78 #[.pointer (some ⟨g, 0, none⟩)] w fun x w' => x = .returned (.int .i64 (kindS b p e).1) ∧ Rd T g b (kindS b p e).2.1 (kindS b p e).2.2 rest w' ∧ Kp (fun k => k = g) w w' := by
  have CN : Hid (Calls _ _ _ _ _) := atMostC T g b p e 4 110 rest w h hb hp (by decide) (by decide)
  have HK : Hid (kindS b p e = ((mostS b 4 110 p e).1, (mostS b 4 110 p e).2.1, if (mostS b 4 110 p e).1 < 1 then refu (mostS b 4 110 p e).2.2 110 else (mostS b 4 110 p e).2.2)) := rfl
  rw [HK.out]
  obtain ⟨x, q, z, HX⟩ : ∃ x q z, Hid (mostS b 4 110 p e = (x, q, z)) := ⟨_, _, _, rfl⟩
  rw [HX.out] at CN ⊢
  clear h hp
  by_cases hx : x < 1
  · have HI : Hid ((if x < 1 then refu z 110 else z) = refu z 110) := if_pos hx
    rw [HI.out]
    go_enter Tryd.func78, Tryd.ntmps78
    go_wp2_with (first | (go_at_call 71; refine CN.out.mono ?_; rintro _ w1 ⟨rfl, r1, k1⟩; have R1 : Hid (Rd T g b q z rest w1) := r1; have K1 : Hid (Kp _ _ _) := k1; clear r1 k1) | (go_at_call 67; refine (refuseC T g b q z 110 rest _ R1.out).mono ?_; rintro _ w2 ⟨rfl, r2, k2⟩; have R2 : Hid (Rd T g b q (refu z 110) rest w2) := r2; have K2 : Hid (Kp _ _ _) := k2; clear r2 k2))
    go_ret
    exact ⟨rfl, R2.out, K1.out.trans K2.out⟩
  · have HI : Hid ((if x < 1 then refu z 110 else z) = z) := if_neg hx
    rw [HI.out]
    go_enter Tryd.func78, Tryd.ntmps78
    go_wp2_with (first | (go_at_call 71; refine CN.out.mono ?_; rintro _ w1 ⟨rfl, r1, k1⟩; have R1 : Hid (Rd T g b q z rest w1) := r1; have K1 : Hid (Kp _ _ _) := k1; clear r1 k1))
    go_ret
    exact ⟨rfl, R1.out, K1.out⟩

-- the list of places as far as it is read
structure PlI (g : Nat) (b : ByteArray) (n p : Nat) (e : Int) (rest : List Value) (w : World) (v : Value) (xs : List Int) (x : Int) (q : Nat) (z : Int) (wr : World) : Prop where
  rd : Rd 92 g b q z rest wr
  ok : Ok b q z
  kp : Kp (fun k => k = g) w wr
  own : wr.ownsRow w.heap.size 3 1 v xs.length (xs.map (Value.int .i64))
  x0 : 0 ≤ x
  x1 : x ≤ 4611686018427387905 + xs.length
  len : xs.length ≤ n
  eq : plS b n 0 p e = (xs ++ (plS b (n - xs.length) x q z).1, (plS b (n - xs.length) x q z).2)
theorem plS_next (b : ByteArray) (n : Nat) (x : Int) (p : Nat) (e : Int) (l : Int) (q : Nat) (z : Int) (h : mostS b (MX - x) 10 p e = (l, q, z)) : plS b (n + 1) x p e = ((x + l) :: (plS b n (x + l + 1) q z).1, (plS b n (x + l + 1) q z).2) := by
  rw [plS, h]
theorem one_num (x : Int) : ∀ u ∈ [Value.int .i64 x], u.oneCell' = true := by
  intro u hu; simp at hu; subst hu; rfl
set_option maxHeartbeats 1600000 in
theorem placesC (g : Nat) (b : ByteArray) (p : Nat) (e : Int) (rest : List Value) (w : World) (h : Rd 92 g b p e rest w) (hb : b.size ≤ 140737488355328) (hp : Ok b p e) (n : Nat) (p2 : Nat) (e2 : Int) (HN : Hid (mostS b 1024 83 p e = ((n : Int), p2, e2))) :
    Calls Tryd.prog 98 #[.pointer (some ⟨g, 0, none⟩)] w fun x w' => (∃ v, x = .returned v ∧ w'.ownsRow w.heap.size 3 1 v (plS b n 0 p2 e2).1.length ((plS b n 0 p2 e2).1.map (Value.int .i64))) ∧ Rd 92 g b (plS b n 0 p2 e2).2.1 (plS b n 0 p2 e2).2.2 rest w' ∧ Kp (fun k => k = g) w w' := by
  obtain ⟨i3, hi, hz0, hz1, hz2⟩ := info_parts Go.Proofs.YthpfgdhmpeadeaaDoor.ti.hiE
  have HIN : Hid (_ ∧ _ ∧ _ ∧ _) := ⟨hi, hz0, hz1, hz2⟩
  clear hi hz0 hz1 hz2
  have hg := h.lt
  have CN : Hid (Calls _ _ _ _ _) := atMostC 92 g b p e 1024 83 rest w h hb hp (by decide) (by decide)
  obtain ⟨hk2, hm0, hm1⟩ := most_ok b 1024 83 p e hp (by decide)
  rw [HN.out] at CN hk2 hm0 hm1
  have hn1 : n ≤ 1024 := by simp at hm1; omega
  obtain ⟨R, HR⟩ : ∃ R, Hid (plS b n 0 p2 e2 = R) := ⟨_, rfl⟩
  rw [HR.out]
  clear h hm0 hm1
  go_enter Tryd.func98, Tryd.ntmps98
  go_wp2_with (go_at_call 71; refine CN.out.mono ?_; rintro _ w2 ⟨rfl, r2, k2⟩; have R2 : Hid (Rd 92 g b p2 e2 rest w2) := r2; have K2 : Hid (Kp (fun k => k = g) w w2) := k2; clear r2 k2)
  go_loopw [3, 4, 10] (fun v xx i wr => ∃ (k : Nat) (xs : List Int) (x : Int) (q : Nat) (z : Int), k ≤ n ∧ xx = .int .i64 x ∧ i = .int .i64 k ∧ Hid (xs.length = k ∧ PlI g b n p2 e2 rest w v xs x q z wr)) (fun _ _ i _ => (n - intOf i).toNat)
  case atStart => exact ⟨0, [], 0, p2, e2, by omega, rfl, rfl, rfl, R2.out, hk2, K2.out, World.ownsRow_nil _ _ _ _, by decide, by decide, by simp, by simp⟩
  case round =>
    clear CN R2 K2 hk2
    obtain ⟨k, xs, x, q, z, hk, rfl, rfl, HHH⟩ := hrel
    have HK : Hid (xs.length = k) := HHH.out.1
    have HH : Hid (PlI g b n p2 e2 rest w _ xs x q z wr) := HHH.out.2
    clear HHH
    obtain ⟨a, cc, hv⟩ := own_formS HH.out.own
    subst hv
    rw [HK.out] at HH ⊢
    have x0 := HH.out.x0
    have x1 := HH.out.x1
    rw [HK.out] at x1
    by_cases hlt : k < n
    · have hlt' : (k : Int) < n := by omega
      have CL : Hid (Calls _ _ _ _ _) := atMostC 92 g b q z (MX - x) 10 rest wr HH.out.rd hb HH.out.ok (by show -4611686018427387904 ≤ 4611686018427387904 - x; omega) (by show 4611686018427387904 - x ≤ 4611686018427387904; omega)
      obtain ⟨hk3, hl0, hl1⟩ := most_ok b (MX - x) 10 q z HH.out.ok (by decide)
      obtain ⟨l, q3, z3, HL⟩ : ∃ l q3 z3, Hid (mostS b (MX - x) 10 q z = (l, q3, z3)) := ⟨_, _, _, rfl⟩
      rw [HL.out] at CL hk3 hl0 hl1
      have OK3 : Hid (Ok b q3 z3) := hk3
      have hl0' : 0 ≤ l := hl0
      have hl1' : l = 0 ∨ l ≤ 4611686018427387904 - x := hl1
      have CL2 : Hid (Calls Tryd.prog 71 #[.pointer (some ⟨g, 0, none⟩), .int .i64 (4611686018427387904 - x), .int .i64 10] wr fun x w' => x = .returned (.int .i64 l) ∧ Rd 92 g b q3 z3 rest w' ∧ Kp (fun k => k = g) wr w') := CL.out
      have hxl : x + l ≤ 4611686018427387905 + k := by omega
      have HO : Hid (wr.ownsRow w.heap.size 3 1 (.slice a k cc) k (xs.map (Value.int .i64))) := by have := HH.out.own; rw [HK.out] at this; exact this
      have hsz : w.heap.size ≤ wr.heap.size := HH.out.kp.size
      clear hk3 hl0 hl1 CL hl1'
      go_wp2_with (first
        | (go_at_call 71; refine CL2.out.mono ?_; rintro _ w3 ⟨rfl, r3, k3⟩; have R3 : Hid (Rd 92 g b q3 z3 rest w3) := r3; have K3 : Hid (Kp (fun k => k = g) wr w3) := k3; have O3 : Hid (w3.ownsRow w.heap.size 3 1 (.slice a k cc) k (xs.map (Value.int .i64))) := own_kp HO.out k3 (fun j hj => by omega); have hsz3 : w.heap.size ≤ w3.heap.size := Nat.le_trans hsz k3.size; clear r3 k3)
        | (at_builtin; refine wpList_append_own _ rfl _ _ 47 rfl w.heap.size 3 i3 (.int .i64 0) 1 8 Tryd.underlying47 HIN.out.1 HIN.out.2.1 HIN.out.2.2.1 HIN.out.2.2.2 rfl (by decide) _ k _ rfl (O3.out.alloc _) ⟨w3.heap.size, 0, none⟩ 1 1 [.int .i64 (x + l)] rfl rfl (new_text _ _ _) (one_num _) (by unfold maxLen; omega) (by omega) (by simp; omega) ?_; intro v' w5 hown' hgrow5 hnil5; have O5 : Hid (w5.ownsRow w.heap.size 3 1 v' (k + 1) (xs.map (Value.int .i64) ++ [.int .i64 (x + l)])) := hown'; have B5 : Hid (Below w.heap.size w3 w5) := Below.grown ((Below.refl _ _).alloc hsz3 _) hgrow5 (by simp; omega) (fun j hj => (O3.out.lt _ hj).1); clear hown' hgrow5 hnil5))
      go_roundw
      case rel =>
        refine ⟨k + 1, xs ++ [x + l], x + l + 1, q3, z3, by omega, by go_num, by go_num, by rw [List.length_append, HK.out]; rfl, Rd.below R3.out B5.out hg, OK3.out, kp_below (HH.out.kp.trans K3.out) B5.out, ?_, by omega, by rw [List.length_append, HK.out]; simp; omega, by rw [List.length_append, HK.out]; simp; omega, ?_⟩
        · rw [List.length_append, HK.out, List.map_append]; exact O5.out
        · have h1 := HH.out.eq
          rw [HK.out, show n - k = (n - (k + 1)) + 1 by omega, plS_next b (n - (k + 1)) x q z l q3 z3 HL.out] at h1
          rw [h1, List.length_append, HK.out]
          simp
      case measure => simp [intOf]; omega
    · have hlt' : ¬ (k : Int) < n := by omega
      have HE : Hid (R = (xs, q, z)) := by
        have h1 := HH.out.eq
        rw [HK.out, show n - k = 0 by omega] at h1
        show _ = _
        rw [← HR.out, h1]
        simp [plS]
      have HO : Hid (wr.ownsRow w.heap.size 3 1 (.slice a k cc) xs.length (xs.map (Value.int .i64)) ∧ Rd 92 g b q z rest wr ∧ Kp (fun k => k = g) w wr) := ⟨HH.out.own, HH.out.rd, HH.out.kp⟩
      clear HH
      go_wp2
      go_ret
      rw [HE.out]
      exact ⟨⟨_, rfl, HO.out.1⟩, HO.out.2⟩
end Go.Proofs.YthpfgdhmpeadeaaDoor.ep

namespace Go.Proofs.YthpfgdhmpeadeaaDoor.eq
open Go.RowKit Go.PlainAid Go.Shelf
open Go.Proofs.YthpfgdhmpeadeaaDoor.ca Go.Proofs.YthpfgdhmpeadeaaDoor.cb Go.Proofs.YthpfgdhmpeadeaaDoor.cp Go.Proofs.YthpfgdhmpeadeaaDoor.ga Go.Proofs.YthpfgdhmpeadeaaDoor.kp Go.Proofs.YthpfgdhmpeadeaaDoor.na Go.Proofs.YthpfgdhmpeadeaaDoor.nb Go.Proofs.YthpfgdhmpeadeaaDoor.nc Go.Proofs.YthpfgdhmpeadeaaDoor.mi Go.Proofs.YthpfgdhmpeadeaaDoor.co Go.Proofs.YthpfgdhmpeadeaaDoor.cn Go.Proofs.YthpfgdhmpeadeaaDoor.ea Go.Proofs.YthpfgdhmpeadeaaDoor.eb Go.Proofs.YthpfgdhmpeadeaaDoor.ec Go.Proofs.YthpfgdhmpeadeaaDoor.ed Go.Proofs.YthpfgdhmpeadeaaDoor.ee Go.Proofs.YthpfgdhmpeadeaaDoor.ef Go.Proofs.YthpfgdhmpeadeaaDoor.eg Go.Proofs.YthpfgdhmpeadeaaDoor.eh Go.Proofs.YthpfgdhmpeadeaaDoor.eo Go.Proofs.YthpfgdhmpeadeaaDoor.ep Go.Proofs.YthpfgdhmpeadeaaDoor.ka Go.Proofs.YthpfgdhmpeadeaaDoor.bn
set_option linter.unusedVariables false

-- a proof's fields, as they lie
def prL (k wd a b n : Int) (av hv : Value) : List Value := [.int .i64 k, .int .i64 wd, .int .i64 a, .int .i64 b, .int .i64 n, av, hv]
abbrev RP (g : Nat) (b : ByteArray) (p : Nat) (e : Int) (k wd a bb n : Int) (av hv : Value) (w : World) : Prop := Rd 92 g b p e (prL k wd a bb n av hv) w
theorem rpK {g : Nat} {b : ByteArray} {p : Nat} {e k wd a bb n : Int} {av hv : Value} {w : World} (h : RP g b p e k wd a bb n av hv w) (x : Int) : RP g b p e x wd a bb n av hv (w.setCell ⟨g, 3, none⟩ (.int .i64 x)) := heap_setCell_same _ _ 3 _ _ _ h
theorem rpW {g : Nat} {b : ByteArray} {p : Nat} {e k wd a bb n : Int} {av hv : Value} {w : World} (h : RP g b p e k wd a bb n av hv w) (x : Int) : RP g b p e k x a bb n av hv (w.setCell ⟨g, 4, none⟩ (.int .i64 x)) := heap_setCell_same _ _ 4 _ _ _ h
theorem rpA {g : Nat} {b : ByteArray} {p : Nat} {e k wd a bb n : Int} {av hv : Value} {w : World} (h : RP g b p e k wd a bb n av hv w) (x : Int) : RP g b p e k wd x bb n av hv (w.setCell ⟨g, 5, none⟩ (.int .i64 x)) := heap_setCell_same _ _ 5 _ _ _ h
theorem rpB {g : Nat} {b : ByteArray} {p : Nat} {e k wd a bb n : Int} {av hv : Value} {w : World} (h : RP g b p e k wd a bb n av hv w) (x : Int) : RP g b p e k wd a x n av hv (w.setCell ⟨g, 6, none⟩ (.int .i64 x)) := heap_setCell_same _ _ 6 _ _ _ h
theorem rpN {g : Nat} {b : ByteArray} {p : Nat} {e k wd a bb n : Int} {av hv : Value} {w : World} (h : RP g b p e k wd a bb n av hv w) (x : Int) : RP g b p e k wd a bb x av hv (w.setCell ⟨g, 7, none⟩ (.int .i64 x)) := heap_setCell_same _ _ 7 _ _ _ h
theorem rpT {g : Nat} {b : ByteArray} {p : Nat} {e k wd a bb n : Int} {av hv : Value} {w : World} (h : RP g b p e k wd a bb n av hv w) (x : Value) : RP g b p e k wd a bb n x hv (w.setCell ⟨g, 8, none⟩ x) := heap_setCell_same _ _ 8 _ _ _ h
theorem rpH {g : Nat} {b : ByteArray} {p : Nat} {e k wd a bb n : Int} {av hv : Value} {w : World} (h : RP g b p e k wd a bb n av hv w) (x : Value) : RP g b p e k wd a bb n av x (w.setCell ⟨g, 9, none⟩ x) := heap_setCell_same _ _ 9 _ _ _ h
theorem rp_cells {g : Nat} {b : ByteArray} {p : Nat} {e k wd a bb n : Int} {av hv : Value} {w : World} (h : RP g b p e k wd a bb n av hv w) :
    w.cell? ⟨g, 3, none⟩ = some (.int .i64 k) ∧ w.cell? ⟨g, 4, none⟩ = some (.int .i64 wd) ∧ w.cell? ⟨g, 5, none⟩ = some (.int .i64 a) ∧ w.cell? ⟨g, 6, none⟩ = some (.int .i64 bb) ∧ w.cell? ⟨g, 7, none⟩ = some (.int .i64 n) ∧ w.cell? ⟨g, 8, none⟩ = some av ∧ w.cell? ⟨g, 9, none⟩ = some hv :=
  ⟨cell_of_row _ _ 3 _ _ _ h, cell_of_row _ _ 4 _ _ _ h, cell_of_row _ _ 5 _ _ _ h, cell_of_row _ _ 6 _ _ _ h, cell_of_row _ _ 7 _ _ _ h, cell_of_row _ _ 8 _ _ _ h, cell_of_row _ _ 9 _ _ _ h⟩
theorem kset (w : World) (g o : Nat) (v : Value) : Kp (fun k => k = g) w (w.setCell ⟨g, o, none⟩ v) := Kp.setCell _ _ _ _ rfl

-- a number stored into a field of the reader's proof: what lies behind it
set_option maxHeartbeats 3200000 in
theorem shapeC (g : Nat) (b : ByteArray) (p : Nat) (e k wd : Int) (hv : Value) (w : World) (h : RP g b p e k wd 0 0 0 (.slice none 0 0) hv w) (hb : b.size ≤ 140737488355328) (hp : Ok b p e) :
    Calls Tryd.prog 79 #[.pointer (some ⟨g, 0, none⟩)] w fun x w' => x = .returned (.tuple #[]) ∧ (∃ av, RP g b (shS b k p e).p (shS b k p e).e k wd (shS b k p e).a (shS b k p e).b (shS b k p e).n av hv w' ∧ w'.ownsRow w.heap.size 3 1 av (shS b k p e).at'.length ((shS b k p e).at'.map (Value.int .i64))) ∧ Kp (fun k => k = g) w w' := by
  have hg := h.lt
  have c3 := (rp_cells h).1
  have SZ : Hid (∀ (p : Nat) (e : Int) rest w, Ok b p e → Rd 92 g b p e rest w → Calls Tryd.prog 64 #[.pointer (some ⟨g, 0, none⟩)] w fun x w' => x = .returned (.int .i64 (mostS b MX 10 p e).1) ∧ Rd 92 g b (mostS b MX 10 p e).2.1 (mostS b MX 10 p e).2.2 rest w' ∧ Kp (fun k => k = g) w w') := fun p e rest w ho h => sizeC 92 g b p e rest w h hb ho
  by_cases h4 : k = 4
  · subst h4
    have HS : Hid (shS b 4 p e = sh4 b p e) := if_pos rfl
    rw [HS.out]
    obtain ⟨hk2, hm0, hm1⟩ := most_ok b 1024 83 p e hp (by decide)
    obtain ⟨m, p2, e2, HN⟩ : ∃ m p2 e2, Hid (mostS b 1024 83 p e = (m, p2, e2)) := ⟨_, _, _, rfl⟩
    rw [HN.out] at hk2 hm0 hm1
    obtain ⟨n, hn⟩ : ∃ n : Nat, m = n := ⟨m.toNat, by simp at hm0; omega⟩
    subst hn
    have PC : Hid (Calls _ _ _ _ _) := placesC g b p e _ w h hb hp n p2 e2 HN
    have hk3 := (plS_ok b n 0 p2 e2 hk2).1
    have HF : Hid (sh4 b p e = ⟨0, 0, (mostS b MX 10 (plS b n 0 p2 e2).2.1 (plS b n 0 p2 e2).2.2).1, (plS b n 0 p2 e2).1, (mostS b MX 10 (plS b n 0 p2 e2).2.1 (plS b n 0 p2 e2).2.2).2.1, (mostS b MX 10 (plS b n 0 p2 e2).2.1 (plS b n 0 p2 e2).2.2).2.2⟩) := by
      show _ = _
      unfold sh4
      rw [HN.out]
      rfl
    rw [HF.out]
    obtain ⟨xs, p3, e3, HP⟩ : ∃ xs p3 e3, Hid (plS b n 0 p2 e2 = (xs, p3, e3)) := ⟨_, _, _, rfl⟩
    rw [HP.out] at PC hk3 ⊢
    have S1 : Hid (∀ rest w, _ → Calls _ _ _ _ _) := fun rest w h => SZ.out p3 e3 rest w hk3 h
    obtain ⟨x4, p4, e4, HQ⟩ : ∃ x4 p4 e4, Hid (mostS b MX 10 p3 e3 = (x4, p4, e4)) := ⟨_, _, _, rfl⟩
    rw [HQ.out] at S1
    have HQ2 : Hid (mostS b MX 10 (xs, p3, e3).2.1 (xs, p3, e3).2.2 = (x4, p4, e4)) := HQ.out
    rw [HQ2.out]
    clear h hp hk2 hk3 hm0 hm1
    go_enter Tryd.func79, Tryd.ntmps79
    go_upto_region 7 with (go_at_call 98; refine PC.out.mono ?_; rintro _ w1 ⟨⟨vt, rfl, o1⟩, r1, k1⟩; obtain ⟨va, vc, hvt⟩ := own_formS o1; subst hvt; have O1 : Hid (w1.ownsRow w.heap.size 3 1 (.slice va xs.length vc) xs.length (xs.map (Value.int .i64))) := o1; have R1 : Hid (RP g b p3 e3 4 wd 0 0 0 (.slice none 0 0) hv w1) := r1; have K1 : Hid (Kp (fun k => k = g) w w1) := k1; have d8 := (rp_cells r1).2.2.2.2.2.1; have f8 := frozen_of_row _ _ 8 _ _ r1; clear o1 r1 k1)
    have R2 : Hid (RP g b p3 e3 4 wd 0 0 0 (.slice va xs.length vc) hv (w1.setCell ⟨g, 8, none⟩ (.slice va xs.length vc))) := rpT R1.out (.slice va xs.length vc)
    have K2 : Hid (Kp (fun k => k = g) w (w1.setCell ⟨g, 8, none⟩ (.slice va xs.length vc))) := K1.out.trans (kset _ _ _ _)
    have O2 : Hid ((w1.setCell ⟨g, 8, none⟩ (.slice va xs.length vc)).ownsRow w.heap.size 3 1 (.slice va xs.length vc) xs.length (xs.map (Value.int .i64))) := own_kp O1.out (kset _ _ _ _) (fun j hj => by omega)
    obtain ⟨w2, HW⟩ : ∃ w2, w2 = w1.setCell ⟨g, 8, none⟩ (.slice va xs.length vc) := ⟨_, rfl⟩
    rw [← HW] at R2 K2 O2 ⊢
    clear HW d8 f8
    go_wp2_with (go_at_call 64; refine (S1.out _ _ R2.out).mono ?_; rintro _ w3 ⟨rfl, r3, k3⟩; have R3 : Hid (RP g b p4 e4 4 wd 0 0 0 (.slice va xs.length vc) hv w3) := r3; have K3 : Hid (Kp (fun k => k = g) w2 w3) := k3; have d7 := (rp_cells r3).2.2.2.2.1; have f7 := frozen_of_row _ _ 7 _ _ r3; clear r3 k3)
    go_end0
    exact ⟨rfl, ⟨(.slice va xs.length vc), rpN R3.out x4, own_kp (own_kp O2.out K3.out (fun j hj => by omega)) (kset _ _ _ _) (fun j hj => by omega)⟩, (K2.out.trans K3.out).trans (kset _ _ _ _)⟩
  have g4 : (k == 4) = false := by rw [beq_eq_false_iff_ne]; exact h4
  obtain ⟨hk1, _, _⟩ := most_ok b MX 10 p e hp (by decide)
  have HF1 : Hid (sh1 b p e = ⟨(mostS b MX 10 p e).1, 0, (mostS b MX 10 (mostS b MX 10 p e).2.1 (mostS b MX 10 p e).2.2).1, [], (mostS b MX 10 (mostS b MX 10 p e).2.1 (mostS b MX 10 p e).2.2).2.1, (mostS b MX 10 (mostS b MX 10 p e).2.1 (mostS b MX 10 p e).2.2).2.2⟩) := rfl
  have HF3 : Hid (sh3 b p e = ⟨(mostS b MX 10 p e).1, (sh1 b (mostS b MX 10 p e).2.1 (mostS b MX 10 p e).2.2).a, (sh1 b (mostS b MX 10 p e).2.1 (mostS b MX 10 p e).2.2).n, [], (sh1 b (mostS b MX 10 p e).2.1 (mostS b MX 10 p e).2.2).p, (sh1 b (mostS b MX 10 p e).2.1 (mostS b MX 10 p e).2.2).e⟩) := rfl
  have S0 : Hid (Calls _ _ _ _ _) := SZ.out p e _ w hp h
  obtain ⟨x1, p1, e1, H1⟩ : ∃ x1 p1 e1, Hid (mostS b MX 10 p e = (x1, p1, e1)) := ⟨_, _, _, rfl⟩
  rw [H1.out] at HF1 HF3 S0 hk1
  have S1 : Hid (∀ rest w, _ → Calls _ _ _ _ _) := fun rest w h => SZ.out p1 e1 rest w hk1 h
  obtain ⟨hk2, _, _⟩ := most_ok b MX 10 p1 e1 hk1 (by decide)
  have HG1 : Hid (sh1 b p1 e1 = ⟨(mostS b MX 10 p1 e1).1, 0, (mostS b MX 10 (mostS b MX 10 p1 e1).2.1 (mostS b MX 10 p1 e1).2.2).1, [], (mostS b MX 10 (mostS b MX 10 p1 e1).2.1 (mostS b MX 10 p1 e1).2.2).2.1, (mostS b MX 10 (mostS b MX 10 p1 e1).2.1 (mostS b MX 10 p1 e1).2.2).2.2⟩) := rfl
  obtain ⟨x2, p2, e2, H2⟩ : ∃ x2 p2 e2, Hid (mostS b MX 10 p1 e1 = (x2, p2, e2)) := ⟨_, _, _, rfl⟩
  have HF1' : Hid (sh1 b p e = ⟨x1, 0, x2, [], p2, e2⟩) := by
    show _ = _
    rw [HF1.out]
    show Sh.mk x1 0 (mostS b MX 10 p1 e1).1 [] (mostS b MX 10 p1 e1).2.1 (mostS b MX 10 p1 e1).2.2 = _
    rw [H2.out]
  rw [H2.out] at S1 HG1 hk2
  have S2 : Hid (∀ rest w, _ → Calls _ _ _ _ _) := fun rest w h => SZ.out p2 e2 rest w hk2 h
  obtain ⟨x3, p3, e3, H3⟩ : ∃ x3 p3 e3, Hid (mostS b MX 10 p2 e2 = (x3, p3, e3)) := ⟨_, _, _, rfl⟩
  have HF3' : Hid (sh3 b p e = ⟨x1, x2, x3, [], p3, e3⟩) := by
    show _ = _
    rw [HF3.out]
    show Sh.mk x1 (sh1 b p1 e1).a (sh1 b p1 e1).n [] (sh1 b p1 e1).p (sh1 b p1 e1).e = _
    rw [HG1.out]
    show Sh.mk x1 x2 (mostS b MX 10 p2 e2).1 [] (mostS b MX 10 p2 e2).2.1 (mostS b MX 10 p2 e2).2.2 = _
    rw [H3.out]
  rw [H3.out] at S2
  have c5 := (rp_cells h).2.2.1
  by_cases h3 : k = 3
  · subst h3
    have HS : Hid (shS b 3 p e = sh3 b p e) := by show _ = _; unfold shS; rw [if_neg (by decide), if_pos rfl]
    rw [HS.out, HF3'.out]
    clear h hp hk1 hk2 HF1 HF3 HG1 HF1' HF3' HS
    go_enter Tryd.func79, Tryd.ntmps79
    go_upto_region 6 with (go_at_call 64; refine S0.out.mono ?_; rintro _ w1 ⟨rfl, r1, k1⟩; have R1 : Hid (RP g b p1 e1 3 wd 0 0 0 (.slice none 0 0) hv w1) := r1; have K1 : Hid (Kp (fun k => k = g) w w1) := k1; have d5 := (rp_cells r1).2.2.1; have f5 := frozen_of_row _ _ 5 _ _ r1; clear r1 k1)
    have R2 : Hid (RP g b p1 e1 3 wd x1 0 0 (.slice none 0 0) hv (w1.setCell ⟨g, 5, none⟩ (.int .i64 x1))) := rpA R1.out x1
    have K2 : Hid (Kp (fun k => k = g) w (w1.setCell ⟨g, 5, none⟩ (.int .i64 x1))) := K1.out.trans (kset _ _ _ _)
    obtain ⟨w2, HW⟩ : ∃ w2, w2 = w1.setCell ⟨g, 5, none⟩ (.int .i64 x1) := ⟨_, rfl⟩
    rw [← HW] at R2 K2 ⊢
    clear HW d5 f5 c3 c5
    go_upto_region 7 with (go_at_call 64; refine (S1.out _ _ R2.out).mono ?_; rintro _ w3 ⟨rfl, r3, k3⟩; have R3 : Hid (RP g b p2 e2 3 wd x1 0 0 (.slice none 0 0) hv w3) := r3; have K3 : Hid (Kp (fun k => k = g) w w3) := K2.out.trans k3; have d6 := (rp_cells r3).2.2.2.1; have f6 := frozen_of_row _ _ 6 _ _ r3; clear r3 k3)
    have R4 : Hid (RP g b p2 e2 3 wd x1 x2 0 (.slice none 0 0) hv (w3.setCell ⟨g, 6, none⟩ (.int .i64 x2))) := rpB R3.out x2
    have K4 : Hid (Kp (fun k => k = g) w (w3.setCell ⟨g, 6, none⟩ (.int .i64 x2))) := K3.out.trans (kset _ _ _ _)
    obtain ⟨w4, HW⟩ : ∃ w4, w4 = w3.setCell ⟨g, 6, none⟩ (.int .i64 x2) := ⟨_, rfl⟩
    rw [← HW] at R4 K4 ⊢
    clear HW d6 f6
    go_wp2_with (go_at_call 64; refine (S2.out _ _ R4.out).mono ?_; rintro _ w5 ⟨rfl, r5, k5⟩; have R5 : Hid (RP g b p3 e3 3 wd x1 x2 0 (.slice none 0 0) hv w5) := r5; have K5 : Hid (Kp (fun k => k = g) w w5) := K4.out.trans k5; have d7 := (rp_cells r5).2.2.2.2.1; have f7 := frozen_of_row _ _ 7 _ _ r5; clear r5 k5)
    go_end0
    exact ⟨rfl, ⟨_, rpN R5.out x3, World.ownsRow_nil _ _ _ _⟩, K5.out.trans (kset _ _ _ _)⟩
  · have HS : Hid (shS b k p e = sh1 b p e) := by show _ = _; unfold shS; rw [if_neg h4, if_neg h3]
    have g3 : (k == 3) = false := by rw [beq_eq_false_iff_ne]; exact h3
    rw [HS.out, HF1'.out]
    clear h hp hk1 hk2 HF1 HF3 HG1 HF1' HF3' HS h3 h4
    go_enter Tryd.func79, Tryd.ntmps79
    go_upto_region 7 with (go_at_call 64; refine S0.out.mono ?_; rintro _ w1 ⟨rfl, r1, k1⟩; have R1 : Hid (RP g b p1 e1 k wd 0 0 0 (.slice none 0 0) hv w1) := r1; have K1 : Hid (Kp (fun k => k = g) w w1) := k1; have d5 := (rp_cells r1).2.2.1; have f5 := frozen_of_row _ _ 5 _ _ r1; clear r1 k1)
    have R2 : Hid (RP g b p1 e1 k wd x1 0 0 (.slice none 0 0) hv (w1.setCell ⟨g, 5, none⟩ (.int .i64 x1))) := rpA R1.out x1
    have K2 : Hid (Kp (fun k => k = g) w (w1.setCell ⟨g, 5, none⟩ (.int .i64 x1))) := K1.out.trans (kset _ _ _ _)
    obtain ⟨w2, HW⟩ : ∃ w2, w2 = w1.setCell ⟨g, 5, none⟩ (.int .i64 x1) := ⟨_, rfl⟩
    rw [← HW] at R2 K2 ⊢
    clear HW d5 f5 c3 c5
    go_wp2_with (go_at_call 64; refine (S1.out _ _ R2.out).mono ?_; rintro _ w3 ⟨rfl, r3, k3⟩; have R3 : Hid (RP g b p2 e2 k wd x1 0 0 (.slice none 0 0) hv w3) := r3; have K3 : Hid (Kp (fun k => k = g) w w3) := K2.out.trans k3; have d7 := (rp_cells r3).2.2.2.2.1; have f7 := frozen_of_row _ _ 7 _ _ r3; clear r3 k3)
    go_end0
    exact ⟨rfl, ⟨_, rpN R3.out x2, World.ownsRow_nil _ _ _ _⟩, K3.out.trans (kset _ _ _ _)⟩
end Go.Proofs.YthpfgdhmpeadeaaDoor.eq

namespace Go.Proofs.YthpfgdhmpeadeaaDoor.er
open Go.RowKit Go.PlainAid Go.Shelf
open Go.Proofs.YthpfgdhmpeadeaaDoor.ca Go.Proofs.YthpfgdhmpeadeaaDoor.cb Go.Proofs.YthpfgdhmpeadeaaDoor.cp Go.Proofs.YthpfgdhmpeadeaaDoor.ga Go.Proofs.YthpfgdhmpeadeaaDoor.kp Go.Proofs.YthpfgdhmpeadeaaDoor.na Go.Proofs.YthpfgdhmpeadeaaDoor.nb Go.Proofs.YthpfgdhmpeadeaaDoor.nc Go.Proofs.YthpfgdhmpeadeaaDoor.mi Go.Proofs.YthpfgdhmpeadeaaDoor.co Go.Proofs.YthpfgdhmpeadeaaDoor.cn Go.Proofs.YthpfgdhmpeadeaaDoor.ea Go.Proofs.YthpfgdhmpeadeaaDoor.eb Go.Proofs.YthpfgdhmpeadeaaDoor.ec Go.Proofs.YthpfgdhmpeadeaaDoor.ed Go.Proofs.YthpfgdhmpeadeaaDoor.ee Go.Proofs.YthpfgdhmpeadeaaDoor.ef Go.Proofs.YthpfgdhmpeadeaaDoor.eg Go.Proofs.YthpfgdhmpeadeaaDoor.eh Go.Proofs.YthpfgdhmpeadeaaDoor.eo Go.Proofs.YthpfgdhmpeadeaaDoor.ep Go.Proofs.YthpfgdhmpeadeaaDoor.eq Go.Proofs.YthpfgdhmpeadeaaDoor.ka Go.Proofs.YthpfgdhmpeadeaaDoor.bn
set_option linter.unusedVariables false

theorem own_base {w : World} {B B' t s n : Nat} {v : Value} {xs : List Value} (h : w.ownsRow B' t s v n xs) (hB : B ≤ B') : w.ownsRow B t s v n xs := by
  refine ⟨h.1, ?_⟩
  rcases h.2 with h2 | ⟨g, cap, cur, h1, h2, h3⟩
  · exact .inl h2
  · exact .inr ⟨g, cap, cur, h1, by omega, h3⟩
theorem own_readsI {w : World} {B n : Nat} {v : Value} {xs : List Int} (h : w.ownsRow B 3 1 v n (xs.map (Value.int .i64))) : ReadsI w v xs := by
  have hl : xs.length = n := by have := h.1; rw [List.length_map] at this; omega
  rcases h.2 with ⟨rfl, h0⟩ | ⟨g, cap, cur, rfl, _, h3, h4, _, _, h5⟩
  · exact ⟨none, 0, by rw [hl, h0], by omega, .inl (by omega)⟩
  · refine ⟨_, cap, by rw [hl], by omega, .inr ⟨g, 0, rfl, fun i hi => ?_⟩⟩
    rw [Nat.zero_add, h.cellAt i (by omega), List.getElem?_map, List.getElem?_eq_getElem hi, List.getD_eq_getElem?_getD, List.getElem?_eq_getElem hi]
    rfl
set_option maxHeartbeats 1600000 in
theorem countP (g : Nat) (b : ByteArray) (p : Nat) (e k wd a bb n : Int) (va : Option Addr) (vl vc : Nat) (hv : Value) (xs : List Int) (w : World) (h : RP g b p e k wd a bb n (.slice va vl vc) hv w) (hha : ∃ ha hl hc, hv = .slice ha hl hc) (hR : ReadsI w (.slice va vl vc) xs) (hz : xs.length ≤ 1024) :
    Calls Tryd.prog 80 #[.pointer (some ⟨g, 0, none⟩)] w fun x w' => x = .returned (.int .i64 (cnt9 k a bb n xs).1) ∧ RP g b p (refu e (cnt9 k a bb n xs).2) k wd a bb n (.slice va vl vc) hv w' ∧ Kp (fun k => k = g) w w' := by
  obtain ⟨ha, hl, hc, rfl⟩ := hha
  obtain ⟨c3, c4, c5, c6, c7, c8, c9⟩ := rp_cells h
  have hg := h.lt
  obtain ⟨W, HW⟩ : ∃ W, W = w.alloc (.cells #[.int .i64 k, .int .i64 wd, .int .i64 a, .int .i64 bb, .int .i64 n, .slice va vl vc, .slice ha hl hc] 49) := ⟨_, rfl⟩
  have hW : W.heap[w.heap.size]? = some (.cells #[.int .i64 k, .int .i64 wd, .int .i64 a, .int .i64 bb, .int .i64 n, .slice va vl vc, .slice ha hl hc] 49 (0, 0)) := by rw [HW]; exact heap_alloc_new w _
  have BW : Hid (Below w.heap.size w W) := by rw [HW]; exact (Below.refl _ _).alloc (Nat.le_refl _) _
  have d0 : W.cell? ⟨w.heap.size, 0, none⟩ = some (.int .i64 k) := cell_of_row _ _ 0 _ _ _ hW
  have d2 : W.cell? ⟨w.heap.size, 2, none⟩ = some (.int .i64 a) := cell_of_row _ _ 2 _ _ _ hW
  have d3 : W.cell? ⟨w.heap.size, 3, none⟩ = some (.int .i64 bb) := cell_of_row _ _ 3 _ _ _ hW
  have d4 : W.cell? ⟨w.heap.size, 4, none⟩ = some (.int .i64 n) := cell_of_row _ _ 4 _ _ _ hW
  have d5 : W.cell? ⟨w.heap.size, 5, none⟩ = some (.slice va vl vc) := cell_of_row _ _ 5 _ _ _ hW
  have CC : Hid (Calls _ _ _ _ _) := countC k a bb n (.slice va vl vc) xs W (hR.later BW.out) (by omega)
  have RW : Hid (RP g b p e k wd a bb n (.slice va vl vc) (.slice ha hl hc) W) := Rd.below h BW.out hg
  obtain ⟨x, z, HX⟩ : ∃ x z, Hid (cnt9 k a bb n xs = (x, z)) := ⟨_, _, rfl⟩
  rw [HX.out] at CC ⊢
  clear h hR hW
  go_enter Tryd.func80, Tryd.ntmps80
  go_upto_region 2 with fail
  rw [← HW]
  clear HW c3 c4 c5 c6 c7 c8 c9
  go_wp2_with (first | (go_at_call 48; refine CC.out.mono ?_; rintro _ w1 ⟨rfl, k1⟩; have R1 : Hid (RP g b p e k wd a bb n (.slice va vl vc) (.slice ha hl hc) w1) := Rd.keep RW.out (A := fun _ => False) (Kp.of_below k1) (fun e => e); have K1 : Hid (Below w.heap.size w w1) := below2 BW.out k1 (Nat.le_refl _); clear k1) | (go_at_call 67; refine (refuseC 92 g b p e z _ _ R1.out).mono ?_; rintro _ w2 ⟨rfl, r2, k2⟩; have R2 : Hid (RP g b p (refu e z) k wd a bb n (.slice va vl vc) (.slice ha hl hc) w2) := r2; have K2 : Hid (Kp (fun k => k = g) w1 w2) := k2; clear r2 k2))
  go_ret
  exact ⟨rfl, R2.out, (Kp.of_below K1.out).trans K2.out⟩
set_option maxHeartbeats 3200000 in
theorem preadC (g : Nat) (b : ByteArray) (B : Nat) (w : World) (h : RP g b 0 0 0 0 0 0 0 (.slice none 0 0) (.slice none 0 0) w) (hb : b.size ≤ 140737488355328) (hB : B ≤ g) :
    Calls Tryd.prog 51 #[.pointer (some ⟨g, 0, none⟩)] w fun x w' => x = .returned (.tuple #[]) ∧ (∃ va vl vc ha hl hc, RP g b (pHs b).2.1 (pHs b).2.2 (pK b).1 (pW b).1 (pSh b).a (pSh b).b (pSh b).n (.slice va vl vc) (.slice ha hl hc) w' ∧ w'.ownsRow B 3 1 (.slice va vl vc) (pSh b).at'.length ((pSh b).at'.map (Value.int .i64)) ∧ w'.ownsRow B 9 1 (.slice ha hl hc) (pHs b).1.length ((pHs b).1.map Value.string)) ∧ Below B w w' := by
  have hg := h.lt
  have CM : Hid (Calls _ _ _ _ _) := markC 92 g b 0 0 80 ⟨#[80]⟩ _ w h hb (ok0 b) rfl
  have CW : Hid (∀ rest w, _ → Calls _ _ _ _ _) := fun rest w h => widthC 92 g b (markS b 80 0 0).1 (markS b 80 0 0).2 rest w h hb (mark_ok b 80 0 0 (ok0 b))
  have CK : Hid (∀ rest w, _ → Calls _ _ _ _ _) := fun rest w h => kindC 92 g b (pW b).2.1 (pW b).2.2 rest w h hb (pW_ok b)
  have CS : Hid (∀ w, _ → Calls _ _ _ _ _) := fun w h => shapeC g b (pK b).2.1 (pK b).2.2 (pK b).1 (pW b).1 (.slice none 0 0) w h hb (pK_ok b)
  have hwd := pW_in b
  have hct := cnt_in (pK b).1 (pSh b).a (pSh b).b (pSh b).n (pSh b).at'
  have HPC : Hid (pCt b = cnt9 (pK b).1 (pSh b).a (pSh b).b (pSh b).n (pSh b).at') := rfl
  rw [← HPC.out] at hct
  have hat : (pSh b).at'.length ≤ 1024 := by
    unfold pSh shS
    split
    · have h1 := most_ok b 1024 83 (pK b).2.1 (pK b).2.2 (pK_ok b) (by decide)
      have h2 := (plS_ok b (mostS b 1024 83 (pK b).2.1 (pK b).2.2).1.toNat 0 _ _ h1.1).2
      show (plS b (mostS b 1024 83 (pK b).2.1 (pK b).2.2).1.toNat 0 (mostS b 1024 83 (pK b).2.1 (pK b).2.2).2.1 (mostS b 1024 83 (pK b).2.1 (pK b).2.2).2.2).1.length ≤ 1024
      rw [h2]; omega
    · split
      · exact Nat.zero_le _
      · exact Nat.zero_le _
  have CH : Hid (∀ rest w, _ → Calls _ _ _ _ _) := fun rest w h => hashesC 92 g b (pSh b).p (refu (pSh b).e (pCt b).2) rest (pW b).1.toNat (pCt b).1.toNat w h hb (pRf_ok b) (by omega) (by omega)
  have HPH : Hid (pHs b = hashesS b (pW b).1.toNat (pCt b).1.toNat (pSh b).p (refu (pSh b).e (pCt b).2)) := rfl
  rw [← HPH.out] at CH
  have HPW : Hid (pW b = widthS b (markS b 80 0 0).1 (markS b 80 0 0).2) := rfl
  rw [← HPW.out] at CW
  have HPK : Hid (pK b = kindS b (pW b).2.1 (pW b).2.2) := rfl
  rw [← HPK.out] at CK
  have HPS : Hid (pSh b = shS b (pK b).1 (pK b).2.1 (pK b).2.2) := rfl
  rw [← HPS.out] at CS
  have CC : Hid (∀ va vl vc w, RP g b (pSh b).p (pSh b).e (pK b).1 (pW b).1 (pSh b).a (pSh b).b (pSh b).n (.slice va vl vc) (.slice none 0 0) w → ReadsI w (.slice va vl vc) (pSh b).at' → Calls _ _ _ _ _) := fun va vl vc w h1 h2 => countP g b (pSh b).p (pSh b).e (pK b).1 (pW b).1 (pSh b).a (pSh b).b (pSh b).n va vl vc (.slice none 0 0) (pSh b).at' w h1 ⟨_, _, _, rfl⟩ h2 hat
  rw [← HPC.out] at CC
  have KB : Hid (∀ w1 w2 : World, w.heap.size ≤ w1.heap.size → Kp (fun k => k = g) w1 w2 → Below B w1 w2) := fun w1 w2 hs k => k.below (fun j hj => by omega) (by omega)
  obtain ⟨p0, e0, HM⟩ : ∃ p0 e0, Hid (markS b 80 0 0 = (p0, e0)) := ⟨_, _, rfl⟩
  rw [HM.out] at CM CW
  clear HPC HPH HPW HPK HPS HM
  obtain ⟨wd, p1, e1, H1⟩ : ∃ x y z, Hid (pW b = (x, y, z)) := ⟨_, _, _, rfl⟩
  rw [H1.out] at CW CK CS CH CC hwd ⊢
  obtain ⟨k, p2, e2, H2⟩ : ∃ x y z, Hid (pK b = (x, y, z)) := ⟨_, _, _, rfl⟩
  rw [H2.out] at CK CS CC ⊢
  obtain ⟨sa, sb, sn, at', p3, e3, H3⟩ : ∃ x y z u v w, Hid (pSh b = ⟨x, y, z, u, v, w⟩) := ⟨_, _, _, _, _, _, rfl⟩
  rw [H3.out] at CS CH CC hat ⊢
  obtain ⟨ct, ce, H4⟩ : ∃ x y, Hid (pCt b = (x, y)) := ⟨_, _, rfl⟩
  rw [H4.out] at CH CC hct
  obtain ⟨hs, p4, e4, H5⟩ : ∃ x y z, Hid (pHs b = (x, y, z)) := ⟨_, _, _, rfl⟩
  rw [H5.out] at CH ⊢
  have hwd1 : 0 ≤ wd ∧ wd ≤ 255 := hwd
  have hct1 : 0 ≤ ct ∧ ct ≤ 70000 := ⟨hct.1, hct.2.1⟩
  obtain ⟨wn, hwn⟩ : ∃ wn : Nat, wd = wn := ⟨wd.toNat, by omega⟩
  subst hwn
  obtain ⟨cn, hcn⟩ : ∃ cn : Nat, ct = cn := ⟨ct.toNat, by omega⟩
  subst hcn
  clear hwd hct h H1 H2 H3 H4 H5
  simp only [Int.toNat_natCast] at CH
  go_enter Tryd.func51, Tryd.ntmps51
  go_upto_region 2 with (first
    | (go_at_call 62; refine CM.out.mono ?_; rintro _ w1 ⟨rfl, r1, k1⟩; have R1 : Hid (RP g b p0 e0 0 0 0 0 0 (.slice none 0 0) (.slice none 0 0) w1) := r1; have K1 : Hid (Kp (fun k => k = g) w w1) := k1; clear r1 k1)
    | (go_at_call 63; refine (CW.out _ _ R1.out).mono ?_; rintro _ w2 ⟨rfl, r2, k2⟩; have R2 : Hid (RP g b p1 e1 0 0 0 0 0 (.slice none 0 0) (.slice none 0 0) w2) := r2; have K2 : Hid (Kp (fun k => k = g) w w2) := K1.out.trans k2; have d4 := (rp_cells r2).2.1; have f4 := frozen_of_row _ _ 4 _ _ r2; clear r2 k2))
  have R3 : Hid (RP g b p1 e1 0 wn 0 0 0 (.slice none 0 0) (.slice none 0 0) (w2.setCell ⟨g, 4, none⟩ (.int .i64 wn))) := rpW R2.out wn
  have K3 : Hid (Kp (fun k => k = g) w (w2.setCell ⟨g, 4, none⟩ (.int .i64 wn))) := K2.out.trans (kset _ _ _ _)
  obtain ⟨w3, HW⟩ : ∃ w3, w3 = w2.setCell ⟨g, 4, none⟩ (.int .i64 wn) := ⟨_, rfl⟩
  rw [← HW] at R3 K3 ⊢
  clear HW d4 f4
  go_upto_region 3 with (go_at_call 78; refine (CK.out _ _ R3.out).mono ?_; rintro _ w4 ⟨rfl, r4, k4⟩; have R4 : Hid (RP g b p2 e2 0 wn 0 0 0 (.slice none 0 0) (.slice none 0 0) w4) := r4; have K4 : Hid (Kp (fun k => k = g) w w4) := K3.out.trans k4; have d3 := (rp_cells r4).1; have f3 := frozen_of_row _ _ 3 _ _ r4; clear r4 k4)
  have R5 : Hid (RP g b p2 e2 k wn 0 0 0 (.slice none 0 0) (.slice none 0 0) (w4.setCell ⟨g, 3, none⟩ (.int .i64 k))) := rpK R4.out k
  have K5 : Hid (Kp (fun k => k = g) w (w4.setCell ⟨g, 3, none⟩ (.int .i64 k))) := K4.out.trans (kset _ _ _ _)
  obtain ⟨w5, HW⟩ : ∃ w5, w5 = w4.setCell ⟨g, 3, none⟩ (.int .i64 k) := ⟨_, rfl⟩
  rw [← HW] at R5 K5 ⊢
  clear HW d3 f3
  go_upto_region 4 with (go_at_call 79; refine (CS.out _ R5.out).mono ?_; rintro _ w6 ⟨rfl, ⟨av, r6, o6⟩, k6⟩; obtain ⟨va, vc, hva⟩ := own_formS o6; subst hva; have R6 : Hid (RP g b p3 e3 k wn sa sb sn (.slice va at'.length vc) (.slice none 0 0) w6) := r6; have O6 : Hid (w6.ownsRow w5.heap.size 3 1 (.slice va at'.length vc) at'.length (at'.map (Value.int .i64))) := o6; have K6 : Hid (Kp (fun k => k = g) w w6) := K5.out.trans k6; clear r6 k6 o6)
  have hs5 := K5.out.size
  have R6d : Hid (RP g b p3 e3 k wn sa sb sn (.slice va at'.length vc) (.slice none 0 0) w6.drew) := R6.out
  have K6d : Hid (Kp (fun k => k = g) w w6.drew) := K6.out.trans (Kp.of_below (below_dr (Below.refl _ _)))
  have O6d : Hid (w6.drew.ownsRow w5.heap.size 3 1 (.slice va at'.length vc) at'.length (at'.map (Value.int .i64))) := O6.out
  have SX : Hid (∀ w', Kp (fun k => k = g) w w' → ∀ (p : Nat) (e : Int) (hv : Value), RP g b p e k wn sa sb sn (.slice va at'.length vc) hv w' → w'.cell? ⟨g, 4, none⟩ = some (.int .i64 wn)) := fun w' _ p e hv r => (rp_cells r).2.1
  go_region_held3 (fun w' => w'.cell? ⟨g, 4, none⟩ = some (.int .i64 wn)) (first | exact SX.out _ K6d.out _ _ _ R6d.out | exact SX.out _ K7.out _ _ _ R7.out | exact SX.out _ K8.out _ _ _ R8.out | exact SX.out _ K9.out _ _ _ R9.out) (first
    | (go_at_call 80; refine (CC.out va at'.length vc _ R6d.out (own_readsI O6d.out)).mono ?_; rintro _ w7 ⟨rfl, r7, k7⟩; have R7 : Hid (RP g b p3 (refu e3 ce) k wn sa sb sn (.slice va at'.length vc) (.slice none 0 0) w7) := r7; have K7 : Hid (Kp (fun k => k = g) w w7) := K6d.out.trans k7; have O7 : Hid (w7.ownsRow w5.heap.size 3 1 (.slice va at'.length vc) at'.length (at'.map (Value.int .i64))) := own_kp O6d.out k7 (fun j hj => by omega); clear r7 k7)
    | (go_at_call 65; refine (CH.out _ _ R7.out).mono ?_; rintro _ w8 ⟨⟨hv, rfl, o8⟩, r8, k8⟩; obtain ⟨ha, hc, hhv⟩ := own_formS o8; subst hhv; have R8 : Hid (RP g b p4 e4 k wn sa sb sn (.slice va at'.length vc) (.slice none 0 0) w8) := r8; have K8 : Hid (Kp (fun k => k = g) w w8) := K7.out.trans k8; have O8 : Hid (w8.ownsRow w5.heap.size 3 1 (.slice va at'.length vc) at'.length (at'.map (Value.int .i64))) := own_kp O7.out k8 (fun j hj => by omega); have H8 : Hid (w8.ownsRow w7.heap.size 9 1 (.slice ha hs.length hc) hs.length (hs.map Value.string)) := o8; have d9 := (rp_cells r8).2.2.2.2.2.2; have f9 := frozen_of_row _ _ 9 _ _ r8; have hs7 := K7.out.size; have R9 : Hid (RP g b p4 e4 k wn sa sb sn (.slice va at'.length vc) (.slice ha hs.length hc) (w8.setCell ⟨g, 9, none⟩ (.slice ha hs.length hc))) := rpH r8 _; have K9 : Hid (Kp (fun k => k = g) w (w8.setCell ⟨g, 9, none⟩ (.slice ha hs.length hc))) := K8.out.trans (kset _ _ _ _); clear r8 k8 o8))
  go_wp2
  go_end0
  exact ⟨rfl, ⟨va, _, vc, ha, _, hc, R9.out, own_base (own_kp O8.out (kset _ _ _ _) (fun j hj => by omega)) (by omega), own_base (own_kp H8.out (kset _ _ _ _) (fun j hj => by omega)) (by omega)⟩, KB.out _ _ (Nat.le_refl _) K9.out⟩
end Go.Proofs.YthpfgdhmpeadeaaDoor.er

namespace Go.Proofs.YthpfgdhmpeadeaaDoor.es
open Go.RowKit Go.PlainAid Go.Shelf
open Go.Proofs.YthpfgdhmpeadeaaDoor.ca Go.Proofs.YthpfgdhmpeadeaaDoor.cb Go.Proofs.YthpfgdhmpeadeaaDoor.cp Go.Proofs.YthpfgdhmpeadeaaDoor.ga Go.Proofs.YthpfgdhmpeadeaaDoor.kp Go.Proofs.YthpfgdhmpeadeaaDoor.na Go.Proofs.YthpfgdhmpeadeaaDoor.nb Go.Proofs.YthpfgdhmpeadeaaDoor.nc Go.Proofs.YthpfgdhmpeadeaaDoor.mi Go.Proofs.YthpfgdhmpeadeaaDoor.co Go.Proofs.YthpfgdhmpeadeaaDoor.cn Go.Proofs.YthpfgdhmpeadeaaDoor.ea Go.Proofs.YthpfgdhmpeadeaaDoor.eb Go.Proofs.YthpfgdhmpeadeaaDoor.ec Go.Proofs.YthpfgdhmpeadeaaDoor.ed Go.Proofs.YthpfgdhmpeadeaaDoor.ee Go.Proofs.YthpfgdhmpeadeaaDoor.ef Go.Proofs.YthpfgdhmpeadeaaDoor.eg Go.Proofs.YthpfgdhmpeadeaaDoor.eh Go.Proofs.YthpfgdhmpeadeaaDoor.eo Go.Proofs.YthpfgdhmpeadeaaDoor.ep Go.Proofs.YthpfgdhmpeadeaaDoor.eq Go.Proofs.YthpfgdhmpeadeaaDoor.er Go.Proofs.YthpfgdhmpeadeaaDoor.ka Go.Proofs.YthpfgdhmpeadeaaDoor.bn
set_option linter.unusedVariables false

-- seven cells written one behind the other
theorem put7 (w : World) (p : Nat) (a0 a1 a2 a3 a4 a5 a6 x0 x1 x2 x3 x4 x5 x6 : Value) (t : TypeId) (h : w.heap[p]? = some (.cells #[a0, a1, a2, a3, a4, a5, a6] t (0, 0))) :
    ∀ W, W = ((((((w.setCell ⟨p, 0, none⟩ x0).setCell ⟨p, 1, none⟩ x1).setCell ⟨p, 2, none⟩ x2).setCell ⟨p, 3, none⟩ x3).setCell ⟨p, 4, none⟩ x4).setCell ⟨p, 5, none⟩ x5).setCell ⟨p, 6, none⟩ x6 →
      W.heap[p]? = some (.cells #[x0, x1, x2, x3, x4, x5, x6] t (0, 0)) ∧ Kp (fun q => q = p) w W := by
  intro W hW
  obtain ⟨u0, e0⟩ : ∃ v, v = w.setCell ⟨p, 0, none⟩ x0 := ⟨_, rfl⟩
  rw [← e0] at hW
  have h0 : u0.heap[p]? = some (.cells #[x0, a1, a2, a3, a4, a5, a6] t (0, 0)) := by rw [e0]; exact heap_setCell_same _ _ 0 _ _ x0 h
  have k0 : Kp (fun q => q = p) w u0 := by rw [e0]; exact kset _ _ _ _
  clear e0
  obtain ⟨u1, e1⟩ : ∃ v, v = u0.setCell ⟨p, 1, none⟩ x1 := ⟨_, rfl⟩
  rw [← e1] at hW
  have h1 : u1.heap[p]? = some (.cells #[x0, x1, a2, a3, a4, a5, a6] t (0, 0)) := by rw [e1]; exact heap_setCell_same _ _ 1 _ _ x1 h0
  have k1 : Kp (fun q => q = p) u0 u1 := by rw [e1]; exact kset _ _ _ _
  clear e1
  obtain ⟨u2, e2⟩ : ∃ v, v = u1.setCell ⟨p, 2, none⟩ x2 := ⟨_, rfl⟩
  rw [← e2] at hW
  have h2 : u2.heap[p]? = some (.cells #[x0, x1, x2, a3, a4, a5, a6] t (0, 0)) := by rw [e2]; exact heap_setCell_same _ _ 2 _ _ x2 h1
  have k2 : Kp (fun q => q = p) u1 u2 := by rw [e2]; exact kset _ _ _ _
  clear e2
  obtain ⟨u3, e3⟩ : ∃ v, v = u2.setCell ⟨p, 3, none⟩ x3 := ⟨_, rfl⟩
  rw [← e3] at hW
  have h3 : u3.heap[p]? = some (.cells #[x0, x1, x2, x3, a4, a5, a6] t (0, 0)) := by rw [e3]; exact heap_setCell_same _ _ 3 _ _ x3 h2
  have k3 : Kp (fun q => q = p) u2 u3 := by rw [e3]; exact kset _ _ _ _
  clear e3
  obtain ⟨u4, e4⟩ : ∃ v, v = u3.setCell ⟨p, 4, none⟩ x4 := ⟨_, rfl⟩
  rw [← e4] at hW
  have h4 : u4.heap[p]? = some (.cells #[x0, x1, x2, x3, x4, a5, a6] t (0, 0)) := by rw [e4]; exact heap_setCell_same _ _ 4 _ _ x4 h3
  have k4 : Kp (fun q => q = p) u3 u4 := by rw [e4]; exact kset _ _ _ _
  clear e4
  obtain ⟨u5, e5⟩ : ∃ v, v = u4.setCell ⟨p, 5, none⟩ x5 := ⟨_, rfl⟩
  rw [← e5] at hW
  have h5 : u5.heap[p]? = some (.cells #[x0, x1, x2, x3, x4, x5, a6] t (0, 0)) := by rw [e5]; exact heap_setCell_same _ _ 5 _ _ x5 h4
  have k5 : Kp (fun q => q = p) u4 u5 := by rw [e5]; exact kset _ _ _ _
  clear e5
  have h6 : W.heap[p]? = some (.cells #[x0, x1, x2, x3, x4, x5, x6] t (0, 0)) := by rw [hW]; exact heap_setCell_same _ _ 6 _ _ x6 h5
  have k6 : Kp (fun q => q = p) u5 W := by rw [hW]; exact kset _ _ _ _
  exact ⟨h6, (((((k0.trans k1).trans k2).trans k3).trans k4).trans k5).trans k6⟩
theorem seven {w : World} {p : Nat} {x0 x1 x2 x3 x4 x5 x6 : Value} {t : TypeId} (h : w.heap[p]? = some (.cells #[x0, x1, x2, x3, x4, x5, x6] t (0, 0))) :
    w.cell? ⟨p, 0, none⟩ = some x0 ∧ w.cell? ⟨p, 1, none⟩ = some x1 ∧ w.cell? ⟨p, 2, none⟩ = some x2 ∧ w.cell? ⟨p, 3, none⟩ = some x3 ∧ w.cell? ⟨p, 4, none⟩ = some x4 ∧ w.cell? ⟨p, 5, none⟩ = some x5 ∧ w.cell? ⟨p, 6, none⟩ = some x6 :=
  ⟨cell_of_row _ _ 0 _ _ _ h, cell_of_row _ _ 1 _ _ _ h, cell_of_row _ _ 2 _ _ _ h, cell_of_row _ _ 3 _ _ _ h, cell_of_row _ _ 4 _ _ _ h, cell_of_row _ _ 5 _ _ _ h, cell_of_row _ _ 6 _ _ _ h⟩
-- a proof that was read
structure PR where
  k : Int
  wd : Int
  a : Int
  b : Int
  n : Int
  at' : List Int
  hs : List ByteArray
def upR (b : ByteArray) : PR := if pE b = 0 then ⟨(pK b).1, (pW b).1, (pSh b).a, (pSh b).b, (pSh b).n, (pSh b).at', (pHs b).1⟩ else ⟨0, 0, 0, 0, 0, [], []⟩
-- what a reader of proofs answers
def ReadP (w : World) (r : PR) (x : Int) (e : Ending) (w' : World) : Prop :=
  (∃ va vl vc ha hl hc, e = .returned (.tuple #[.agg #[.int .i64 r.k, .int .i64 r.wd, .int .i64 r.a, .int .i64 r.b, .int .i64 r.n, .slice va vl vc, .slice ha hl hc], .int .i64 x]) ∧ w'.ownsRow w.heap.size 3 1 (.slice va vl vc) r.at'.length (r.at'.map (Value.int .i64)) ∧ w'.ownsRow w.heap.size 9 1 (.slice ha hl hc) r.hs.length (r.hs.map Value.string)) ∧ Below w.heap.size w w'
set_option maxRecDepth 100000 in
set_option maxHeartbeats 3200000 in
theorem unProofC (b : ByteArray) (w : World) (hb : b.size ≤ 140737488355328) : Calls Tryd.prog 22 #[.string b] w (ReadP w (upR b) (pE b)) := by
  have HR0 : Hid (upR b = if pE b = 0 then ⟨(pK b).1, (pW b).1, (pSh b).a, (pSh b).b, (pSh b).n, (pSh b).at', (pHs b).1⟩ else ⟨0, 0, 0, 0, 0, [], []⟩) := rfl
  have EC : Hid (∀ g rest W, _ → Calls _ _ _ _ _) := fun g rest W h => endC 92 g b (pHs b).2.1 (pHs b).2.2 rest W h hb (pHs_ok b)
  have HE : Hid (endS b (pHs b).2.1 (pHs b).2.2 = pE b) := rfl
  rw [HE.out] at EC
  obtain ⟨W0, HX0⟩ : ∃ W0, Hid (W0 = w.alloc (.cells #[.int .i64 0, .int .i64 0, .int .i64 0, .int .i64 0, .int .i64 0, .slice none 0 0, .slice none 0 0] 49)) := ⟨_, rfl⟩
  have HW0 := HX0.out
  have hW0 : W0.heap[w.heap.size]? = some (.cells #[.int .i64 0, .int .i64 0, .int .i64 0, .int .i64 0, .int .i64 0, .slice none 0 0, .slice none 0 0] 49 (0, 0)) := by rw [HW0]; exact heap_alloc_new w _
  have B0 : Hid (Below w.heap.size w W0) := by rw [HW0]; exact (Below.refl _ _).alloc (Nat.le_refl _) _
  have hs0 : W0.heap.size = w.heap.size + 1 := by rw [HW0]; simp
  obtain ⟨g, HG⟩ : ∃ g, g = W0.heap.size := ⟨_, rfl⟩
  obtain ⟨W1, HX1⟩ : ∃ W1, Hid (W1 = W0.alloc (.cells #[.string b, .int .i64 0, .int .i64 0, .int .i64 0, .int .i64 0, .int .i64 0, .int .i64 0, .int .i64 0, .slice none 0 0, .slice none 0 0] 92)) := ⟨_, rfl⟩
  have HW1 := HX1.out
  have R1 : Hid (RP g b 0 0 0 0 0 0 0 (.slice none 0 0) (.slice none 0 0) W1) := by rw [HW1, HG]; exact heap_alloc_new W0 _
  have B1 : Hid (Below W0.heap.size W0 W1) := by rw [HW1]; exact (Below.refl _ _).alloc (Nat.le_refl _) _
  have LR : Hid (Calls _ _ _ _ _) := preadC g b W0.heap.size W1 R1.out hb (by omega)
  have P1 : Hid (W1.heap[w.heap.size]? = _) := (B1.out.block _ (by omega)).trans hW0
  have KB : Hid (∀ w1 w2 : World, W0.heap.size ≤ w1.heap.size → Kp (fun k => k = g) w1 w2 → Below W0.heap.size w1 w2) := fun w1 w2 hs k => k.below (fun j hj => by omega) (by omega)
  have HS0 : Hid (W0.heap.size = w.heap.size + 1 ∧ g = W0.heap.size) := ⟨hs0, HG⟩
  have FN : Hid (∀ w2 : World, Below W0.heap.size W1 w2 → w2.heap[w.heap.size]? = some (.cells #[.int .i64 0, .int .i64 0, .int .i64 0, .int .i64 0, .int .i64 0, .slice none 0 0, .slice none 0 0] 49 (0, 0)) ∧ Below w.heap.size w w2) := fun w2 h2 => ⟨(h2.block _ (by omega)).trans P1.out, ⟨h2.os.trans (B1.out.os.trans B0.out.os), h2.tape.trans (B1.out.tape.trans B0.out.tape), h2.output.trans (B1.out.output.trans B0.out.output), Nat.le_trans B0.out.size (Nat.le_trans B1.out.size h2.size), fun j hj => (h2.block j (by omega)).trans ((B1.out.block j (by omega)).trans (B0.out.block j hj))⟩⟩
  obtain ⟨z, HZ⟩ : ∃ z, Hid (pE b = z) := ⟨_, rfl⟩
  rw [HZ.out] at EC HR0 ⊢
  obtain ⟨k, HK⟩ : ∃ k, Hid ((pK b).1 = k) := ⟨_, rfl⟩
  obtain ⟨wd, HWD⟩ : ∃ k, Hid ((pW b).1 = k) := ⟨_, rfl⟩
  obtain ⟨sa, sb, sn, at', sp, se, HSH⟩ : ∃ x y z u v w, Hid (pSh b = ⟨x, y, z, u, v, w⟩) := ⟨_, _, _, _, _, _, rfl⟩
  obtain ⟨hs, q, z0, HH⟩ : ∃ x y z, Hid (pHs b = (x, y, z)) := ⟨_, _, _, rfl⟩
  rw [HK.out, HWD.out, HSH.out, HH.out] at HR0 LR
  rw [HH.out] at EC
  have hg2 : g ≠ w.heap.size := by omega
  have HG1 : Hid (w.heap.size + 1 = g) := by have := HS0.out; show _ = _; omega
  clear hW0 hs0 P1 HW0 HW1 HG
  by_cases hz : z = 0
  · subst hz
    rw [if_pos rfl] at HR0
    rw [HR0.out]
    go_enter Tryd.func22, Tryd.ntmps22
    go_upto_region 2 with fail
    rw [← HX0.out, ← HX1.out, HG1.out]
    go_upto_region 6 with (first
      | (go_at_call 51; refine LR.out.mono ?_; rintro _ w2 ⟨rfl, ⟨va, vl, vc, ha, hl, hc, r2, o2, h2⟩, k2⟩; have R2 : Hid (RP g b q z0 k wd sa sb sn (.slice va vl vc) (.slice ha hl hc) w2) := r2; have O2 : Hid (w2.ownsRow W0.heap.size 3 1 (.slice va vl vc) at'.length (at'.map (Value.int .i64))) := o2; have H2 : Hid (w2.ownsRow W0.heap.size 9 1 (.slice ha hl hc) hs.length (hs.map Value.string)) := h2; have K2 : Hid (Below W0.heap.size W1 w2) := k2; clear r2 o2 h2 k2)
      | (go_at_call 40; refine (EC.out g _ _ R2.out).mono ?_; rintro _ w3 ⟨rfl, r3, k3⟩; have R3 : Hid (RP g b q 0 k wd sa sb sn (.slice va vl vc) (.slice ha hl hc) w3) := r3; have O3 : Hid (w3.ownsRow W0.heap.size 3 1 (.slice va vl vc) at'.length (at'.map (Value.int .i64))) := own_tag O2.out R2.out (by decide) k3; have H3 : Hid (w3.ownsRow W0.heap.size 9 1 (.slice ha hl hc) hs.length (hs.map Value.string)) := own_tag H2.out R2.out (by decide) k3; have K3 : Hid (Below W0.heap.size W1 w3) := K2.out.trans (KB.out _ _ (Nat.le_trans B1.out.size K2.out.size) k3); clear r3 k3))
    obtain ⟨f0, f1⟩ := FN.out w3 K3.out
    obtain ⟨c3, c4, c5, c6, c7, c8, c9⟩ := rp_cells R3.out
    obtain ⟨d0, d1, d2, d3, d4, d5, d6⟩ := seven f0
    have g0 := frozen_of_row _ _ 0 _ _ f0
    have g1 := frozen_of_row _ _ 1 _ _ f0
    have g2 := frozen_of_row _ _ 2 _ _ f0
    have g3 := frozen_of_row _ _ 3 _ _ f0
    have g4 := frozen_of_row _ _ 4 _ _ f0
    have g5 := frozen_of_row _ _ 5 _ _ f0
    have g6 := frozen_of_row _ _ 6 _ _ f0
    have FIN : Hid (∀ W', W' = _ → _) := put7 w3 w.heap.size _ _ _ _ _ _ _ (.int .i64 k) (.int .i64 wd) (.int .i64 sa) (.int .i64 sb) (.int .i64 sn) (.slice va vl vc) (.slice ha hl hc) _ f0
    have BF : Hid (Below w.heap.size w w3) := f1
    clear f0 f1
    go_wp2
    obtain ⟨G, hk⟩ := FIN.out _ rfl
    obtain ⟨e0, e1, e2, e3, e4, e5, e6⟩ := seven G
    refine bodyPost_ret (by simp [results, Tryd.results22, go_sem, e0, e1, e2, e3, e4, e5, e6]; try rfl) rfl ?_
    refine ⟨⟨va, vl, vc, ha, hl, hc, rfl, own_base (own_kp O3.out hk (fun j hj => by have := HS0.out; omega)) (by have := HS0.out; omega), own_base (own_kp H3.out hk (fun j hj => by have := HS0.out; omega)) (by have := HS0.out; omega)⟩, BF.out.trans (hk.below (fun j hj => by omega) (BF.out.size))⟩
  · have hz' : (z != 0) = true := by rw [bne_iff_ne]; exact hz
    rw [if_neg hz] at HR0
    rw [HR0.out]
    clear hz
    go_enter Tryd.func22, Tryd.ntmps22
    go_upto_region 2 with fail
    rw [← HX0.out, ← HX1.out, HG1.out]
    go_upto_region 5 with (first
      | (go_at_call 51; refine LR.out.mono ?_; rintro _ w2 ⟨rfl, ⟨va, vl, vc, ha, hl, hc, r2, o2, h2⟩, k2⟩; have R2 : Hid (RP g b q z0 k wd sa sb sn (.slice va vl vc) (.slice ha hl hc) w2) := r2; have K2 : Hid (Below W0.heap.size W1 w2) := k2; clear r2 o2 h2 k2)
      | (go_at_call 40; refine (EC.out g _ _ R2.out).mono ?_; rintro _ w3 ⟨rfl, r3, k3⟩; have K3 : Hid (Below W0.heap.size W1 w3) := K2.out.trans (KB.out _ _ (Nat.le_trans B1.out.size K2.out.size) k3); clear r3 k3))
    obtain ⟨f0, f1⟩ := FN.out w3 K3.out
    obtain ⟨d0, d1, d2, d3, d4, d5, d6⟩ := seven f0
    have g0 := frozen_of_row _ _ 0 _ _ f0
    have g1 := frozen_of_row _ _ 1 _ _ f0
    have g2 := frozen_of_row _ _ 2 _ _ f0
    have g3 := frozen_of_row _ _ 3 _ _ f0
    have g4 := frozen_of_row _ _ 4 _ _ f0
    have g5 := frozen_of_row _ _ 5 _ _ f0
    have g6 := frozen_of_row _ _ 6 _ _ f0
    have FIN : Hid (∀ W', W' = _ → _) := put7 w3 w.heap.size _ _ _ _ _ _ _ (.int .i64 0) (.int .i64 0) (.int .i64 0) (.int .i64 0) (.int .i64 0) (.slice none 0 0) (.slice none 0 0) _ f0
    have BF : Hid (Below w.heap.size w w3) := f1
    clear f0 f1
    go_wp2
    obtain ⟨G, hk⟩ := FIN.out _ rfl
    obtain ⟨e0, e1, e2, e3, e4, e5, e6⟩ := seven G
    refine bodyPost_ret (by simp [results, Tryd.results22, go_sem, e0, e1, e2, e3, e4, e5, e6]; try rfl) rfl ?_
    exact ⟨⟨none, 0, 0, none, 0, 0, rfl, World.ownsRow_nil _ _ _ _, World.ownsRow_nil _ _ _ _⟩, BF.out.trans (hk.below (fun j hj => by omega) (BF.out.size))⟩
end Go.Proofs.YthpfgdhmpeadeaaDoor.es
