import Derived.Test.YtmmbkfagchaocaaDoorC2
import Derived.Test.YtmmbkfagchaocaaDoorD1
import Derived.Test.YtmmbkfagchaocaaDoorA8
import Derived.Laws.AppendOwnNone
import Derived.Laws.OwnMore
import Derived.BigQuiet
import Derived.Deep.RegionWith
import Derived.Deep.DeepCutAuto
import Derived.Deep.RegionHeld3
import Derived.Deep.RegionLaw
import Derived.Deep.AppendLies
import Derived.Test.YtmmbkfagchaocaaDoorA1
namespace Go.Proofs.YtmmbkfagchaocaaDoor.v1
open Go.RowKit Go.PlainAid
open Go.Proofs.YtmmbkfagchaocaaDoor.pl Go.Proofs.YtmmbkfagchaocaaDoor.pi Go.Proofs.YtmmbkfagchaocaaDoor.pj Go.Proofs.YtmmbkfagchaocaaDoor.rf Go.Proofs.YtmmbkfagchaocaaDoor.cp Go.Proofs.YtmmbkfagchaocaaDoor.cs Go.Proofs.YtmmbkfagchaocaaDoor.ca Go.Proofs.YtmmbkfagchaocaaDoor.cb Go.Proofs.YtmmbkfagchaocaaDoor.ka Go.Proofs.YtmmbkfagchaocaaDoor.kb Go.Proofs.YtmmbkfagchaocaaDoor.ga Go.Proofs.YtmmbkfagchaocaaDoor.aa Go.Proofs.YtmmbkfagchaocaaDoor.ab Go.Proofs.YtmmbkfagchaocaaDoor.ad Go.Proofs.YtmmbkfagchaocaaDoor.ae Go.Proofs.YtmmbkfagchaocaaDoor.ac Go.Proofs.YtmmbkfagchaocaaDoor.tb Go.Proofs.YtmmbkfagchaocaaDoor.bc Go.Proofs.YtmmbkfagchaocaaDoor.bd Go.Proofs.YtmmbkfagchaocaaDoor.bh Go.Proofs.YtmmbkfagchaocaaDoor.bi Go.Proofs.YtmmbkfagchaocaaDoor.bj Go.Proofs.YtmmbkfagchaocaaDoor.bp Go.Proofs.YtmmbkfagchaocaaDoor.bt Go.Proofs.YtmmbkfagchaocaaDoor.mi Go.Proofs.YtmmbkfagchaocaaDoor.mp Go.Proofs.YtmmbkfagchaocaaDoor.mq Go.Proofs.YtmmbkfagchaocaaDoor.sa Go.Proofs.YtmmbkfagchaocaaDoor.sc Go.Proofs.YtmmbkfagchaocaaDoor.sd Go.Proofs.YtmmbkfagchaocaaDoor.se Go.Proofs.YtmmbkfagchaocaaDoor.sm Go.Proofs.YtmmbkfagchaocaaDoor.sn Go.Proofs.YtmmbkfagchaocaaDoor.sr Go.Proofs.YtmmbkfagchaocaaDoor.ss Go.Proofs.YtmmbkfagchaocaaDoor.su
set_option linter.unusedVariables false

-- what a made source answers, whatever was asked before
def hsW (wd : Int) (ps : List (Nat × Nat)) : List ByteArray := ps.map (fun p => fow wd ((cov p.1 p.2).map (mdh wd)))
def qsW (ps : List (Nat × Nat)) : List (Nat × Nat) := ps.flatMap (fun p => cov p.1 p.2)
theorem told_made (wd : Int) (n : Nat) (hn : n ≤ 4611686018427387904) (lk : Nat → Nat → Nat) (l : List (Nat × Nat)) : told (okw wd) (fow wd) (askS (mds wd n)) l (WL lk 0 n) = (hsW wd (WL lk 0 n), 0, l ++ qsW (WL lk 0 n)) :=
  told_all1 _ _ _ (mdh wd) _ l (fun p hp a ha k => made_ask wd n hn p (by have := WL_pt lk n 0 n rfl (Nat.zero_le _) (pt_top hn) p hp; omega) a ha k)
theorem qs_len (wd : Int) (n : Nat) (hn : n ≤ 4611686018427387904) (lk : Nat → Nat → Nat) : (qsW (WL lk 0 n)).length ≤ 62 * (WL lk 0 n).length := by
  have h := (made_told wd n hn lk).2.2
  rw [told_made wd n hn lk []] at h
  simpa using h
def Says (f : List (Nat × Nat) → List ByteArray × Int × List (Nat × Nat)) (Hs : List ByteArray) (b : Nat) : Prop := ∃ Q : List (Nat × Nat), Q.length ≤ 62 * b ∧ Hs.length ≤ b ∧ ∀ l, f l = (Hs, 0, l ++ Q)
theorem says_of (wd : Int) (n : Nat) (hn : n ≤ 4611686018427387904) (lk : Nat → Nat → Nat) {b : Nat} (h : (WL lk 0 n).length ≤ b) : Says (fun l => told (okw wd) (fow wd) (askS (mds wd n)) l (WL lk 0 n)) (hsW wd (WL lk 0 n)) b :=
  ⟨_, by have := qs_len wd n hn lk; omega, by unfold hsW; rw [List.length_map]; exact h, fun l => told_made wd n hn lk l⟩
theorem says_inc (wd : Int) (n i : Nat) (h : 1 ≤ n) (hn : n ≤ 4611686018427387904) (hi : i < n) : Says (fun l => incA wd (askS (mds wd n)) n i n l) (hsW wd (WL (lkI i) 0 n)) 62 := by
  have hc := cl2_spec h hn
  have hl := incl_len i (cl2 n) 0 n (by omega) (Nat.zero_le _) hi
  have e : (fun l => incA wd (askS (mds wd n)) n i n l) = fun l => told (okw wd) (fow wd) (askS (mds wd n)) l (WL (lkI i) 0 n) := by
    funext l
    unfold incA
    rw [if_pos (chk_same hn), if_neg (by omega), Int.toNat_natCast, Int.toNat_natCast]
  rw [e]
  exact says_of wd n hn _ (by omega)
theorem says_rng (wd : Int) (n lo hi : Nat) (h : 1 ≤ n) (hn : n ≤ 4611686018427387904) (h1 : lo < hi) (h2 : hi ≤ n) : Says (fun l => rngA wd (askS (mds wd n)) n lo hi n l) (hsW wd (WL (lkR lo hi) 0 n)) 124 := by
  have hc := cl2_spec h hn
  have hl := out_len lo hi (cl2 n) 0 n (by omega) h1 (by omega) (by omega)
  have e : (fun l => rngA wd (askS (mds wd n)) n lo hi n l) = fun l => told (okw wd) (fow wd) (askS (mds wd n)) l (WL (lkR lo hi) 0 n) := by
    funext l
    unfold rngA
    rw [if_pos (chk_same hn), if_neg (by omega), Int.toNat_natCast, Int.toNat_natCast, Int.toNat_natCast]
  rw [e]
  exact says_of wd n hn _ (by omega)
theorem says_con (wd : Int) (n m : Nat) (h : 1 ≤ n) (hn : n ≤ 4611686018427387904) (hm : m ≤ n) : ∃ Hs, Says (fun l => conA wd (askS (mds wd n)) n m n l) Hs 63 := by
  have hc := cl2_spec h hn
  by_cases h0 : m = 0
  · refine ⟨[], [], by simp, by simp, fun l => ?_⟩
    show conA wd (askS (mds wd n)) n m n l = _
    unfold conA
    rw [if_pos (chk_same hn), if_neg (by omega), if_pos (by omega), List.append_nil]
  · have hl := cons_len m (cl2 n) 0 n (by omega) (by omega) hm
    have e : (fun l => conA wd (askS (mds wd n)) n m n l) = fun l => told (okw wd) (fow wd) (askS (mds wd n)) l (WL (lkC m) 0 n) := by
      funext l
      unfold conA
      rw [if_pos (chk_same hn), if_neg (by omega), if_neg (by omega), Int.toNat_natCast, Int.toNat_natCast]
    rw [e]
    exact ⟨_, says_of wd n hn _ (by omega)⟩
theorem says_mul (wd : Int) (n : Nat) (zs : List Int) (h : 1 ≤ n) (hn : n ≤ 4611686018427387904) (hz : places zs n = 0) : Says (fun l => mulA wd (askS (mds wd n)) n zs n l) (hsW wd (WL (lkM (natL zs)) 0 n)) (zs.length * 62) := by
  have hc := cl2_spec h hn
  obtain ⟨z1, z2, z3, z4⟩ := places_ok hz
  have e : (fun l => mulA wd (askS (mds wd n)) n zs n l) = fun l => told (okw wd) (fow wd) (askS (mds wd n)) l (WL (lkM (natL zs)) 0 n) := by
    funext l
    unfold mulA
    rw [if_pos (chk_same hn), if_pos hz, Int.toNat_natCast]
  rw [e]
  refine says_of wd n hn _ ?_
  have hne : inM (natL zs) 0 n ≠ [] := by
    intro e
    refine (inM_nil _ _ _).1 e ?_
    have h0 := z3 0 (by omega)
    exact ⟨(zs.getD 0 0).toNat, (mem_nat (fun j hj => (z3 j hj).1)).2 ⟨0, by omega, by omega⟩, by omega, by omega⟩
  have hl := multi_len (natL zs) (cl2 n) 0 n (by omega) (by omega) hne
  have h5 : (inM (natL zs) 0 n).length ≤ zs.length := by
    unfold inM
    refine Nat.le_trans (List.length_filter_le _ _) ?_
    unfold natL
    rw [List.length_map]
    exact Nat.le_refl _
  exact Nat.le_trans hl (Nat.mul_le_mul h5 hc.1)
-- the places from lo on
def atL (lo k : Nat) : List Int := (List.range k).map (fun i => ((lo + i : Nat) : Int))
theorem atL_len (lo k : Nat) : (atL lo k).length = k := by unfold atL; rw [List.length_map, List.length_range]
theorem atL_succ (lo k : Nat) : atL lo (k + 1) = atL lo k ++ [((lo + k : Nat) : Int)] := by unfold atL; rw [List.range_succ, List.map_append]; rfl
theorem atL_get (lo k j : Nat) (h : j < k) : (atL lo k).getD j 0 = ((lo + j : Nat) : Int) := by
  rw [List.getD_eq_getElem?_getD]
  unfold atL
  rw [List.getElem?_map, List.getElem?_range h]
  rfl
theorem atL_up (lo k n : Nat) (h : lo + k ≤ n) : Up (atL lo k) n := by
  refine ⟨fun j hj => ?_, fun j hj => ?_⟩
  · rw [atL_len] at hj
    rw [atL_get lo k j hj]
    omega
  · rw [atL_len] at hj
    rw [atL_get lo k j (by omega), atL_get lo k (j + 1) hj]
    omega
theorem atL_mem (lo k p : Nat) : p ∈ natL (atL lo k) ↔ lo ≤ p ∧ p < lo + k := by
  unfold natL atL
  rw [List.map_map, List.mem_map]
  constructor
  · rintro ⟨i, hi, rfl⟩
    have := List.mem_range.1 hi
    show lo ≤ (((lo + i : Nat) : Int)).toNat ∧ (((lo + i : Nat) : Int)).toNat < lo + k
    rw [Int.toNat_natCast]
    omega
  · intro h
    refine ⟨p - lo, List.mem_range.2 (by omega), ?_⟩
    show (((lo + (p - lo) : Nat) : Int)).toNat = p
    rw [Int.toNat_natCast]
    omega
-- the last place is another
def atM (lo k : Nat) : List Int := (atL lo k).set (k - 1) ((lo + k : Nat) : Int)
theorem atM_len (lo k : Nat) : (atM lo k).length = k := by unfold atM; rw [List.length_set, atL_len]
theorem atM_get (lo k j : Nat) (h : j < k) : (atM lo k).getD j 0 = if j = k - 1 then ((lo + k : Nat) : Int) else ((lo + j : Nat) : Int) := by
  rw [List.getD_eq_getElem?_getD]
  unfold atM
  by_cases e : j = k - 1
  · rw [e, List.getElem?_set_self (by rw [atL_len]; omega), if_pos rfl]
    rfl
  · rw [List.getElem?_set_ne (fun h => e h.symm), if_neg e, ← List.getD_eq_getElem?_getD, atL_get lo k j h]
theorem atM_up (lo k n : Nat) (h : lo + k < n) : Up (atM lo k) n := by
  refine ⟨fun j hj => ?_, fun j hj => ?_⟩
  · rw [atM_len] at hj
    rw [atM_get lo k j hj]
    split <;> omega
  · rw [atM_len] at hj
    rw [atM_get lo k j (by omega), atM_get lo k (j + 1) hj, if_neg (by omega)]
    split <;> omega
-- what the law asks of the answers
theorem hs_range (wd : Int) (n lo k : Nat) (hk : 1 ≤ k) (hn : 1 ≤ n) : hsW wd (WL (lkR lo (lo + k)) 0 n) = hsW wd (WL (lkM (natL (atL lo k))) 0 n) := by
  rw [range_multi (natL (atL lo k)) lo (lo + k) (by omega) (fun p => atL_mem lo k p) n 0 n (by omega) (by omega)]
theorem hs_incl (wd : Int) (n lo : Nat) (hn : 1 ≤ n) : (hsW wd (WL (lkI lo) 0 n)).Perm (hsW wd (WL (lkM (natL (atL lo 1))) 0 n)) := by
  have e : natL (atL lo 1) = [lo] := by
    show [(((lo + 0 : Nat) : Int)).toNat] = [lo]
    rw [Int.toNat_natCast]
    rfl
  rw [e]
  exact (incl_multi lo n 0 n (by omega) (by omega)).map _
theorem hs_some (wd : Int) (n i : Nat) (h : 1 ≤ n) (hn : n ≤ 4611686018427387904) (hi : i < n) (h1 : 1 < n) : (hsW wd (WL (lkI i) 0 n)).length ≠ 0 := by
  have f := (few_incl wd n i h hn hi).2 h1
  obtain ⟨Q, _, _, e⟩ := says_inc wd n i h hn hi
  have e2 := e []
  dsimp only at e2
  rw [e2] at f
  unfold ans at f
  rw [if_pos rfl] at f
  exact f
end Go.Proofs.YtmmbkfagchaocaaDoor.v1

namespace Go.Proofs.YtmmbkfagchaocaaDoor.v2
open Go.RowKit Go.PlainAid
open Go.Proofs.YtmmbkfagchaocaaDoor.pl Go.Proofs.YtmmbkfagchaocaaDoor.pi Go.Proofs.YtmmbkfagchaocaaDoor.pj Go.Proofs.YtmmbkfagchaocaaDoor.rf Go.Proofs.YtmmbkfagchaocaaDoor.cp Go.Proofs.YtmmbkfagchaocaaDoor.cs Go.Proofs.YtmmbkfagchaocaaDoor.ca Go.Proofs.YtmmbkfagchaocaaDoor.cb Go.Proofs.YtmmbkfagchaocaaDoor.ka Go.Proofs.YtmmbkfagchaocaaDoor.kb Go.Proofs.YtmmbkfagchaocaaDoor.ga Go.Proofs.YtmmbkfagchaocaaDoor.aa Go.Proofs.YtmmbkfagchaocaaDoor.ab Go.Proofs.YtmmbkfagchaocaaDoor.ad Go.Proofs.YtmmbkfagchaocaaDoor.ae Go.Proofs.YtmmbkfagchaocaaDoor.ac Go.Proofs.YtmmbkfagchaocaaDoor.tb Go.Proofs.YtmmbkfagchaocaaDoor.bc Go.Proofs.YtmmbkfagchaocaaDoor.bd Go.Proofs.YtmmbkfagchaocaaDoor.bh Go.Proofs.YtmmbkfagchaocaaDoor.bi Go.Proofs.YtmmbkfagchaocaaDoor.bj Go.Proofs.YtmmbkfagchaocaaDoor.bp Go.Proofs.YtmmbkfagchaocaaDoor.bt Go.Proofs.YtmmbkfagchaocaaDoor.mi Go.Proofs.YtmmbkfagchaocaaDoor.mp Go.Proofs.YtmmbkfagchaocaaDoor.mq Go.Proofs.YtmmbkfagchaocaaDoor.sa Go.Proofs.YtmmbkfagchaocaaDoor.sc Go.Proofs.YtmmbkfagchaocaaDoor.sd Go.Proofs.YtmmbkfagchaocaaDoor.se Go.Proofs.YtmmbkfagchaocaaDoor.sm Go.Proofs.YtmmbkfagchaocaaDoor.sn Go.Proofs.YtmmbkfagchaocaaDoor.sr Go.Proofs.YtmmbkfagchaocaaDoor.su Go.Proofs.YtmmbkfagchaocaaDoor.v1
open Go.Proofs.YtmmbkfagchaocaaDoor.s2 (Clu)
open Go.Proofs.YtmmbkfagchaocaaDoor.s3 (own_apart grown_fr)
set_option linter.unusedVariables false

theorem rdl (wd : Int) (n sb base tb : Nat) : Rd 56 #[.pointer (some ⟨tb, 0, none⟩)] #[] (askS (mds wd n)) (TJ (mds wd n) sb (.slice none 0 0) base tb) 4294967296 (fun b => Dp (.slice none 0 0) b ∨ b = tb) := telR (mds wd n) sb (.slice none 0 0) base tb (by show i64 0; unfold i64; omega)
abbrev RV (wd : Int) (n tb : Nat) : Value := .agg #[.int .i64 wd, .int .i64 n, .func (.func 56) #[.pointer (some ⟨tb, 0, none⟩)] #[]]
def ReadB (w : World) (rb : Nat) (wd : Int) (n tb : Nat) : Prop := w.heap[rb]? = some (.cells #[.int .i64 wd, .int .i64 n, .func (.func 56) #[.pointer (some ⟨tb, 0, none⟩)] #[]] 48 (0, 0))
theorem ReadB.cells {w : World} {rb n tb : Nat} {wd : Int} (h : ReadB w rb wd n tb) : w.cell? ⟨rb, 0, none⟩ = some (.int .i64 wd) ∧ w.cell? ⟨rb, 1, none⟩ = some (.int .i64 n) ∧ w.cell? ⟨rb, 2, none⟩ = some (.func (.func 56) #[.pointer (some ⟨tb, 0, none⟩)] #[]) :=
  ⟨by rw [cell_of_row _ _ _ _ _ _ h]; rfl, by rw [cell_of_row _ _ _ _ _ _ h]; rfl, by rw [cell_of_row _ _ _ _ _ _ h]; rfl⟩
theorem readB_kept {w w' : World} {b B t sz n m tb : Nat} {wd : Int} {v : Value} {xs : List Value} (h : ReadB w b wd n tb) (ho : w.ownsRow B t sz v m xs) (hg : w.grownBy w' v.ownBlock) (hne : t ≠ 48) : ReadB w' b wd n tb := by
  refine (hg.block b (Array.getElem?_eq_some_iff.1 h).1 fun e => ?_).trans h
  rcases ho.2 with ⟨rfl, _⟩ | ⟨g, cap, cur, rfl, _, hgg, _⟩
  · cases e
  · have e' : b = g := Option.some.inj e
    subst e'
    unfold ReadB at h
    rw [hgg] at h
    simp only [Option.some.injEq, Obj.cells.injEq] at h
    exact hne h.2.1
-- the reader and its boxes, the places, the answers in clusters
structure St (B : Nat) (w0 : World) (wd : Int) (n sb base tb : Nat) (R : List Nat) (av : Value) (zs : List Int) (H : List (List (Value × List Value))) (S : List (Value × List Value)) (F : Nat → Prop) (l : List (Nat × Nat)) (w : World) : Prop where
  j : TJ (mds wd n) sb (.slice none 0 0) base tb F l w
  r : ∀ b ∈ R, ReadB w b wd n tb
  a : w.ownsRow w0.heap.size 3 1 av zs.length (zs.map (Value.int .i64))
  na : av.ownBlock ≠ some tb
  s : ∀ p ∈ S, ∃ m, w.ownsRow B 22 1 p.1 m p.2
  bs : ∀ p ∈ S, Beside F p.1
  c : Clu w B 9 1 H
  ba : Beside F av
  bc : ∀ c ∈ H, ∀ p ∈ c, Beside F p.1
  br : ∀ b ∈ R, ¬ F b
  fr : Below w0.heap.size w0 w
  fF : ∀ b, F b → w0.heap.size ≤ b
  hB : tb < B ∧ w0.heap.size ≤ B ∧ 6 ≤ w0.heap.size ∧ B ≤ w.heap.size
section
variable {B : Nat} {w0 w w' : World} {wd : Int} {n sb base tb : Nat} {R : List Nat} {av : Value} {zs : List Int} {H : List (List (Value × List Value))} {S : List (Value × List Value)} {F : Nat → Prop} {l : List (Nat × Nat)}
theorem St.later (h : St B w0 wd n sb base tb R av zs H S F l w) (b : Below w.heap.size w w') : St B w0 wd n sb base tb R av zs H S F l w' :=
  ⟨(rdl wd n sb base tb).later h.j b, fun q hq => (b.block q (Array.getElem?_eq_some_iff.1 (h.r q hq)).1).trans (h.r q hq), own_later h.a b, h.na, (fun p hp => by obtain ⟨m, hm⟩ := h.s p hp; exact ⟨m, own_later hm b⟩), h.bs, h.c.later b, h.ba, h.bc, h.br, over h.fr b, h.fF, ⟨h.hB.1, h.hB.2.1, h.hB.2.2.1, Nat.le_trans h.hB.2.2.2 b.size⟩⟩
abbrev RO (wd : Int) (n tb : Nat) : Obj := .cells #[.int .i64 wd, .int .i64 n, .func (.func 56) #[.pointer (some ⟨tb, 0, none⟩)] #[]] 48
-- one box of the reader more
theorem St.box (h : St B w0 wd n sb base tb R av zs H S F l w) : St B w0 wd n sb base tb (w.heap.size :: R) av zs H S F l (w.alloc (RO wd n tb)) := by
  have k := h.later ((Below.refl _ _).alloc (Nat.le_refl _) (RO wd n tb))
  refine ⟨k.j, fun q hq => ?_, k.a, k.na, k.s, k.bs, k.c, k.ba, k.bc, fun q hq => ?_, k.fr, k.fF, k.hB⟩
  · rcases List.mem_cons.1 hq with rfl | hq
    · exact heap_alloc_new _ _
    · exact k.r q hq
  · rcases List.mem_cons.1 hq with rfl | hq
    · exact fun hf => Nat.lt_irrefl _ ((rdl wd n sb base tb).within h.j _ hf)
    · exact k.br q hq
-- an answer
theorem St.asked (h : St B w0 wd n sb base tb R av zs H S F l w) {A : List ByteArray × Int × List (Nat × Nat)} {Hs : List ByteArray} {Q : List (Nat × Nat)} (hA : A = (Hs, 0, l ++ Q)) {e : Ending} (hP : Proved (TJ (mds wd n) sb (.slice none 0 0) base tb) F w A e w') :
    ∃ ua uc F', e = .returned (.tuple #[.slice ua Hs.length uc, .int .i64 0]) ∧ St B w0 wd n sb base tb R av zs (H ++ [[(.slice ua Hs.length uc, Hs.map Value.string)]]) S F' (l ++ Q) w' := by
  subst hA
  obtain ⟨u, F', rfl, ho, hj, hg, hbs⟩ := hP
  have ea : ans ((Hs, 0, l ++ Q) : List ByteArray × Int × List (Nat × Nat)) = Hs := by unfold ans; rw [if_pos rfl]
  rw [ea] at ho
  obtain ⟨ua, uc, rfl⟩ := own_formS ho
  refine ⟨ua, uc, F', rfl, hj, fun q hq => (hg.1.block q (Array.getElem?_eq_some_iff.1 (h.r q hq)).1 (h.br q hq)).trans (h.r q hq), (hg.owns h.a h.ba).1, h.na, (fun p hp => by obtain ⟨m, hm⟩ := h.s p hp; exact ⟨m, (hg.owns hm (h.bs p hp)).1⟩), (fun p hp => by obtain ⟨m, hm⟩ := h.s p hp; exact (hg.owns hm (h.bs p hp)).2), ⟨fun c hc p hp => ?_, ?_⟩, (hg.owns h.a h.ba).2, fun c hc p hp => ?_, fun q hq => hg.out (Array.getElem?_eq_some_iff.1 (h.r q hq)).1 (h.br q hq), h.fr.trans (hg.1.below h.fF h.fr.size), fun b hb => ?_, ⟨h.hB.1, h.hB.2.1, h.hB.2.2.1, Nat.le_trans h.hB.2.2.2 hg.1.size⟩⟩
  · rcases List.mem_append.1 hc with hc | hc
    · obtain ⟨m, hm⟩ := h.c.own c hc p hp
      exact ⟨m, (hg.owns hm (h.bc c hc p hp)).1⟩
    · obtain rfl := List.mem_singleton.1 hc
      obtain rfl := List.mem_singleton.1 hp
      exact ⟨_, own_down ho h.hB.2.2.2⟩
  · refine List.pairwise_append.2 ⟨h.c.apart, List.pairwise_singleton _ _, fun c hc d hd p hp q hq g e e' => ?_⟩
    obtain rfl := List.mem_singleton.1 hd
    obtain rfl := List.mem_singleton.1 hq
    obtain ⟨m, hm⟩ := h.c.own c hc p hp
    have h1 := (hm.lt g e).2
    have h2 := (ho.lt g e').1
    omega
  · rcases List.mem_append.1 hc with hc | hc
    · obtain ⟨m, hm⟩ := h.c.own c hc p hp
      exact (hg.owns hm (h.bc c hc p hp)).2
    · obtain rfl := List.mem_singleton.1 hc
      obtain rfl := List.mem_singleton.1 hp
      exact hbs
  · rcases hg.2 b hb with q | q
    · exact h.fF b q
    · exact Nat.le_trans h.fr.size q
-- a row of texts that was made beside it
theorem St.add (h : St B w0 wd n sb base tb R av zs H S F l w) (b : Below w.heap.size w w') {C : List (List (Value × List Value))} (hC : Clu w' w.heap.size 9 1 C) : St B w0 wd n sb base tb R av zs (H ++ C) S F l w' := by
  have k := h.later b
  refine ⟨k.j, k.r, k.a, k.na, k.s, k.bs, ⟨fun c hc p hp => ?_, ?_⟩, k.ba, fun c hc p hp => ?_, k.br, k.fr, k.fF, k.hB⟩
  · rcases List.mem_append.1 hc with hc | hc
    · exact k.c.own c hc p hp
    · obtain ⟨m, hm⟩ := hC.own c hc p hp
      exact ⟨m, own_down hm h.hB.2.2.2⟩
  · refine List.pairwise_append.2 ⟨k.c.apart, hC.apart, fun c hc d hd p hp q hq g e e' => ?_⟩
    obtain ⟨m, hm⟩ := h.c.own c hc p hp
    obtain ⟨m', hm'⟩ := hC.own d hd q hq
    have h1 := (hm.lt g e).2
    have h2 := (hm'.lt g e').1
    omega
  · rcases List.mem_append.1 hc with hc | hc
    · exact k.bc c hc p hp
    · obtain ⟨m, hm⟩ := hC.own c hc p hp
      intro g hg hf
      have h1 := (hm.lt g hg).1
      have h2 := (rdl wd n sb base tb).within h.j g hf
      omega
-- a row is turned
theorem St.turn (h : St B w0 wd n sb base tb R av zs H S F l w) {k m : Nat} {c c' : List (Value × List Value)} {v : Value} {xs : List Value} (hk : H[k]? = some c) (hv : (v, xs) ∈ c) (hown : w.ownsRow B 9 1 v m xs) (hg : w.grownBy w' v.ownBlock) (ho : ∀ p ∈ c', ∃ n, w'.ownsRow B 9 1 p.1 n p.2) (hn : ∀ p ∈ c', (∃ q ∈ c, p.1.ownBlock = q.1.ownBlock) ∨ ∃ g, p.1.ownBlock = some g ∧ w.heap.size ≤ g) : St B w0 wd n sb base tb R av zs (H.set k c') S F l w' := by
  have hc : c ∈ H := List.mem_of_getElem? hk
  have hlt : ∀ g, v.ownBlock = some g → B ≤ g := fun g e => (hown.lt g e).1
  have hb : ∀ g, v.ownBlock = some g → ¬ F g := h.bc c hc _ hv
  have K : Kp (fun b => v.ownBlock = some b) w w' := ⟨hg.os, hg.tape, hg.output, hg.size, fun q hq hnq => hg.block q hq (fun e => hnq e.symm)⟩
  refine ⟨(rdl wd n sb base tb).keep h.j K (fun b e => ⟨hb b e, fun hd => ?_⟩), fun q hq => readB_kept (h.r q hq) hown hg (by decide), h.a.kept hg (own_apart h.a hown (by decide)), h.na, (fun p hp => by obtain ⟨m, hm⟩ := h.s p hp; exact ⟨m, hm.kept hg (own_apart hm hown (by decide))⟩), h.bs, h.c.turn hk ⟨_, hv, rfl⟩ hg ho hn, h.ba, fun d hd p hp => ?_, h.br, grown_fr h.fr hg (fun g e => Nat.le_trans h.hB.2.1 (hlt g e)), h.fF, ⟨h.hB.1, h.hB.2.1, h.hB.2.2.1, Nat.le_trans h.hB.2.2.2 hg.size⟩⟩
  · have hBb := hlt b e
    rcases hd with (hd | ⟨off, q, z, hd⟩) | hd
    · have := h.hB.2.2.1; have := h.hB.2.1; omega
    · cases hd
    · have := h.hB.1; omega
  · obtain ⟨i, hi⟩ := List.mem_iff_getElem?.1 hd
    by_cases e : i = k
    · subst e
      rw [List.getElem?_set_self (List.getElem?_eq_some_iff.1 hk).1] at hi
      obtain rfl := Option.some.inj hi
      intro g hgp hf
      rcases hn p hp with ⟨q, hq, e⟩ | ⟨g', e, hle⟩
      · exact h.bc c hc q hq g (e.symm.trans hgp) hf
      · have h2 := (rdl wd n sb base tb).within h.j g hf
        rw [hgp] at e
        have := Option.some.inj e
        omega
    · rw [List.getElem?_set_ne (Ne.symm e)] at hi
      exact h.bc d (List.mem_of_getElem? hi) p hp
theorem own_n {w : World} {B t sz m n cc : Nat} {a : Option Addr} {xs : List Value} (h : w.ownsRow B t sz (.slice a n cc) m xs) : m = n := by
  rcases h.2 with ⟨e, e2⟩ | ⟨g1, cap, cur, e, _⟩
  · rw [(Value.slice.inj e).2.1]; exact e2
  · exact (Value.slice.inj e).2.1.symm
theorem St.own (h : St B w0 wd n sb base tb R av zs H S F l w) {k m cp : Nat} {a : Option Addr} {xs : List Value} {c : List (Value × List Value)} (hk : H[k]? = some c) (hv : (.slice a m cp, xs) ∈ c) : w.ownsRow B 9 1 (.slice a m cp) m xs := by
  obtain ⟨q, hown⟩ := h.c.own _ (List.mem_of_getElem? hk) _ hv
  obtain rfl := own_n hown
  exact hown
theorem St.read (h : St B w0 wd n sb base tb R av zs H S F l w) {k : Nat} {v : Value} {L : List ByteArray} (hk : H[k]? = some [(v, L.map Value.string)]) : ReadsT w v L := by
  obtain ⟨m, hm⟩ := h.c.own _ (List.mem_of_getElem? hk) _ (List.mem_singleton.2 rfl)
  exact own_readsT hm
theorem St.slot (h : St B w0 wd n sb base tb R av zs H S F l w) {k m cc i : Nat} {a : Option Addr} {xs : List Value} (hk : H[k]? = some [(.slice a m cc, xs)]) (hi : i < m) : ∃ g, a = some ⟨g, 0, none⟩ ∧ (∃ u, w.cell? ⟨g, i, none⟩ = some u) ∧ w.frozen? ⟨g, i, none⟩ = false ∧ B ≤ g := by
  have hown := h.own hk (List.mem_singleton.2 rfl)
  obtain ⟨g, rfl⟩ : ∃ g, a = some ⟨g, 0, none⟩ := by
    rcases hown.2 with ⟨e, e2⟩ | ⟨g, cap, cur, e, _⟩
    · omega
    · exact ⟨g, (Value.slice.inj e).1⟩
  have hl : xs.length = m * 1 := hown.1
  exact ⟨g, rfl, ⟨xs[i]'(by omega), by rw [World.ownsRow.cellAt hown i (by omega)]; exact List.getElem?_eq_getElem _⟩, World.ownsRow.frozenAt hown i, (hown.lt g rfl).1⟩
-- a text is written over
theorem St.put (h : St B w0 wd n sb base tb R av zs H S F l w) {k m g cp i : Nat} {L : List ByteArray} (hk : H[k]? = some [(.slice (some ⟨g, 0, none⟩) m cp, L.map Value.string)]) (x : ByteArray) : St B w0 wd n sb base tb R av zs (H.set k [(.slice (some ⟨g, 0, none⟩) m cp, (L.set i x).map Value.string)]) S F l (w.setCell ⟨g, i, none⟩ (.string x)) := by
  have hown := h.own hk (List.mem_singleton.2 rfl)
  obtain ⟨h1, h2⟩ := World.ownsRow.stored hown i (.string x)
  rw [← List.map_set] at h1
  exact h.turn hk (List.mem_singleton.2 rfl) hown h2 (fun p hp => by obtain rfl := List.mem_singleton.1 hp; exact ⟨_, h1⟩) (fun p hp => by obtain rfl := List.mem_singleton.1 hp; exact .inl ⟨_, List.mem_singleton.2 rfl, rfl⟩)
-- a row is made longer beside itself
theorem St.app (h : St B w0 wd n sb base tb R av zs H S F l w) {k m m' m2 : Nat} {v y y' : Value} {xs ys ys' : List Value} {c : List (Value × List Value)} (hk : H[k]? = some c) (hv : (v, xs) ∈ c) (hy : (y, ys) ∈ c) (hvo : w.ownsRow B 9 1 v m2 xs) (hle : m2 ≤ m) (hown : w.ownsRow B 9 1 y m ys) (h1 : w'.ownsRow B 9 1 y' m' ys') (hg : w.grownBy w' y.ownBlock) (hb : y'.ownBlock = y.ownBlock ∨ y'.ownBlock = some w.heap.size) (hkeep : ∀ p k ps, w.ownsRow B 9 1 p k ps → (p.ownBlock = y.ownBlock → k ≤ m) → w'.ownsRow B 9 1 p k ps) : St B w0 wd n sb base tb R av zs (H.set k [(v, xs), (y', ys')]) S F l w' := by
  refine h.turn hk hy hown hg (fun p hp => ?_) (fun p hp => ?_)
  · rcases List.mem_cons.1 hp with rfl | hp
    · exact ⟨m2, hkeep _ _ _ hvo fun _ => hle⟩
    · obtain rfl := List.mem_singleton.1 hp
      exact ⟨m', h1⟩
  · rcases List.mem_cons.1 hp with rfl | hp
    · exact .inl ⟨_, hv, rfl⟩
    · obtain rfl := List.mem_singleton.1 hp
      rcases hb with e | e
      · exact .inl ⟨_, hy, e⟩
      · exact .inr ⟨_, e, Nat.le_refl _⟩
-- the longer one is let go
theorem St.shut (h : St B w0 wd n sb base tb R av zs H S F l w) {k : Nat} {p q : Value × List Value} (hk : H[k]? = some [p, q]) : St B w0 wd n sb base tb R av zs (H.set k [p]) S F l w := by
  obtain ⟨hk1, hk2⟩ := List.getElem?_eq_some_iff.1 hk
  have sub : ∀ d ∈ H.set k [p], ∀ r ∈ d, ∃ c ∈ H, r ∈ c := fun d hd r hr => by
    rcases List.mem_or_eq_of_mem_set hd with hd | rfl
    · exact ⟨d, hd, hr⟩
    · exact ⟨_, List.mem_of_getElem? hk, by rw [List.mem_singleton.1 hr]; exact List.mem_cons_self⟩
  refine ⟨h.j, h.r, h.a, h.na, h.s, h.bs, ⟨fun d hd r hr => ?_, ?_⟩, h.ba, fun d hd r hr => ?_, h.br, h.fr, h.fF, h.hB⟩
  · obtain ⟨c, hc, hrc⟩ := sub d hd r hr
    exact h.c.own c hc r hrc
  · apply List.pairwise_iff_getElem.2
    intro a b ha hb hab
    rw [List.length_set] at ha hb
    have base := List.pairwise_iff_getElem.1 h.c.apart a b ha hb hab
    rw [List.getElem_set, List.getElem_set]
    by_cases e : k = a
    · subst e
      rw [if_pos rfl, if_neg (by omega)]
      rw [hk2] at base
      exact fun r hr => base r (by rw [List.mem_singleton.1 hr]; exact List.mem_cons_self)
    · rw [if_neg e]
      by_cases e' : k = b
      · subst e'
        rw [if_pos rfl]
        rw [hk2] at base
        exact fun r hr s hs => base r hr s (by rw [List.mem_singleton.1 hs]; exact List.mem_cons_self)
      · rw [if_neg e']
        exact base
  · obtain ⟨c, hc, hrc⟩ := sub d hd r hr
    exact h.bc c hc r hrc
-- the list of places, and one of them written over
theorem St.ints (h : St B w0 wd n sb base tb R av zs H S F l w) : ReadsI w av zs := by
  have ho := h.a
  obtain ⟨a, c, rfl⟩ := own_formS ho
  refine ⟨a, c, rfl, ?_, ?_⟩
  · rcases ho.2 with ⟨e, e2⟩ | ⟨g, cap, cur, e, _, _, hle, _⟩
    · omega
    · rw [(Value.slice.inj e).2.2]; exact hle
  · by_cases h0 : zs.length = 0
    · exact .inl h0
    · right
      obtain ⟨g, rfl⟩ : ∃ g, a = some ⟨g, 0, none⟩ := by
        rcases ho.2 with ⟨e, e2⟩ | ⟨g, cap, cur, e, _⟩
        · omega
        · exact ⟨g, (Value.slice.inj e).1⟩
      refine ⟨g, 0, rfl, fun i hi => ?_⟩
      rw [Nat.zero_add, World.ownsRow.cellAt ho i (by omega), List.getElem?_map, List.getD_eq_getElem?_getD, List.getElem?_eq_getElem hi]
      rfl
theorem St.setInt (h : St B w0 wd n sb base tb R av zs H S F l w) {g m cp i : Nat} (hv : av = .slice (some ⟨g, 0, none⟩) m cp) (z : Int) : St B w0 wd n sb base tb R av (zs.set i z) H S F l (w.setCell ⟨g, i, none⟩ (.int .i64 z)) := by
  have ho := h.a
  subst hv
  obtain rfl := own_n ho
  obtain ⟨h1, h2⟩ := World.ownsRow.stored ho i (.int .i64 z)
  have hlt : w0.heap.size ≤ g := (ho.lt g rfl).1
  have K : Kp (fun b => b = g) w (w.setCell ⟨g, i, none⟩ (.int .i64 z)) := Kp.setCell _ _ _ _ rfl
  refine ⟨(rdl wd n sb base tb).keep h.j K (fun b e => ⟨?_, fun hd => ?_⟩), ?_, ?_, h.na, (fun p hp => by obtain ⟨m, hm⟩ := h.s p hp; exact ⟨m, hm.kept h2 (own_apart hm ho (by decide))⟩), h.bs, ⟨fun c hc p hp => ?_, h.c.apart⟩, h.ba, h.bc, h.br, grown_fr h.fr h2 (fun q e => ?_), h.fF, ⟨h.hB.1, h.hB.2.1, h.hB.2.2.1, Nat.le_trans h.hB.2.2.2 h2.size⟩⟩
  · have e' : b = g := e
    subst e'
    exact h.ba b rfl
  · have e' : b = g := e
    subst e'
    rcases hd with (hd | ⟨off, q, y, hd⟩) | hd
    · have := h.hB.2.2.1; omega
    · cases hd
    · exact h.na (by rw [hd]; rfl)
  · exact fun q hq => readB_kept (h.r q hq) ho h2 (by decide)
  · have hl : (zs.set i z).length = zs.length := List.length_set
    rw [hl, List.map_set]
    exact h1
  · obtain ⟨m, hm⟩ := h.c.own c hc p hp
    exact ⟨m, hm.kept h2 (own_apart hm ho (by decide))⟩
  · have e' : g = q := Option.some.inj e
    omega
-- a list of lists that stands
theorem St.keepS (h : St B w0 wd n sb base tb R av zs H S F l w) (b : Below w.heap.size w w') {v : Value} {m : Nat} {xs : List Value} (ho : w'.ownsRow w.heap.size 22 1 v m xs) : St B w0 wd n sb base tb R av zs H (S ++ [(v, xs)]) F l w' := by
  have k := h.later b
  refine ⟨k.j, k.r, k.a, k.na, fun p hp => ?_, fun p hp => ?_, k.c, k.ba, k.bc, k.br, k.fr, k.fF, k.hB⟩
  · rcases List.mem_append.1 hp with hp | hp
    · exact k.s p hp
    · obtain rfl := List.mem_singleton.1 hp
      exact ⟨m, own_down ho h.hB.2.2.2⟩
  · rcases List.mem_append.1 hp with hp | hp
    · exact k.bs p hp
    · obtain rfl := List.mem_singleton.1 hp
      intro g hg hf
      have h1 := (ho.lt g hg).1
      have h2 := (rdl wd n sb base tb).within h.j g hf
      omega
theorem St.strs (h : St B w0 wd n sb base tb R av zs H S F l w) {i m cp : Nat} {a : Option Addr} {vs : List Value} (hi : S[i]? = some (.slice a m cp, vs)) {j : Nat} {v : Value} (hj : vs[j]? = some v) : ∃ g, a = some ⟨g, 0, none⟩ ∧ w.cell? ⟨g, j, none⟩ = some v := by
  obtain ⟨q, ho⟩ := h.s _ (List.mem_of_getElem? hi)
  obtain rfl := own_n ho
  have hlt := (List.getElem?_eq_some_iff.1 hj).1
  have hl : vs.length = q * 1 := ho.1
  obtain ⟨g, rfl⟩ : ∃ g, a = some ⟨g, 0, none⟩ := by
    rcases ho.2 with ⟨e, e2⟩ | ⟨g, cap, cur, e, _⟩
    · omega
    · exact ⟨g, (Value.slice.inj e).1⟩
  exact ⟨g, rfl, by rw [World.ownsRow.cellAt ho j (by omega)]; exact hj⟩
end
end Go.Proofs.YtmmbkfagchaocaaDoor.v2

namespace Go.Proofs.YtmmbkfagchaocaaDoor.v3
open Go.RowKit Go.PlainAid
open Go.Proofs.YtmmbkfagchaocaaDoor.pl Go.Proofs.YtmmbkfagchaocaaDoor.cp Go.Proofs.YtmmbkfagchaocaaDoor.cs Go.Proofs.YtmmbkfagchaocaaDoor.ka Go.Proofs.YtmmbkfagchaocaaDoor.ac Go.Proofs.YtmmbkfagchaocaaDoor.mi Go.Proofs.YtmmbkfagchaocaaDoor.mo Go.Proofs.YtmmbkfagchaocaaDoor.v2
open Go.Proofs.YtmmbkfagchaocaaDoor.s2 (Clu)
set_option linter.unusedVariables false

-- a list of its own in memory, of texts and of numbers
def OwT (w : World) (B : Nat) (v : Value) (xs : List ByteArray) : Prop := w.ownsRow B 9 1 v xs.length (xs.map Value.string)
def OwI (w : World) (B : Nat) (v : Value) (xs : List Int) : Prop := w.ownsRow B 3 1 v xs.length (xs.map (Value.int .i64))
theorem own_no {w : World} {B t s n : Nat} {v : Value} {xs : List Value} (h : w.ownsRow B t s v n xs) : ∀ k c, v = .slice none k c → c = 0 := fun k c e => by
  rcases h.2 with ⟨e1, _⟩ | ⟨g, cap, cur, e1, _⟩
  · rw [e1] at e; exact ((Value.slice.inj e).2.2).symm
  · rw [e1] at e; exact absurd (Value.slice.inj e).1 (by simp)
theorem onesI (xs : List Int) : ∀ u ∈ xs.map (Value.int .i64), u.oneCell' = true := by
  intro u hu
  obtain ⟨x, _, rfl⟩ := List.mem_map.1 hu
  rfl
theorem onesT (xs : List ByteArray) : ∀ u ∈ xs.map Value.string, u.oneCell' = true := by
  intro u hu
  obtain ⟨x, _, rfl⟩ := List.mem_map.1 hu
  rfl
section
variable {ops : Array Oper} {rest : List Oper} {o : Oper} {a : Act} {Q : Exit → Act → World → Prop} {w : World}
set_option maxRecDepth 100000 in
theorem wpList_appA (hgd : o.guard = none) (s x : Operand) (ho : o.op = .call { callee := .builtin .append, args := #[s, x], argTypes := #[22, 22] }) (B : Nat) (v y : Value) (xs ys : List ByteArray) (hs : a.eval s = v) (hown : OwT w B v xs) (hx : a.eval x = y) (hy : ReadsT w y ys) (hno : ∀ k c, y = .slice none k c → c = 0) (hb : (xs.length + ys.length) * 16 ≤ 140737488355328) (hB : B ≤ w.heap.size)
    (h : ∀ v' w', OwT w' B v' (xs ++ ys) → Below B w w' → wpList Tryd.prog ops Q rest (a.put o.dst v') w') : wpList Tryd.prog ops Q (o :: rest) a w := by
  obtain ⟨i9, hi, hz0, hz1, hz2⟩ := cs.info_parts hi9
  obtain ⟨ad, c, rfl, hc, hr⟩ := hy
  cases ad with
  | none =>
    have hc0 := hno _ _ rfl
    subst hc0
    have hl0 : ys = [] := List.length_eq_zero_iff.1 (by omega)
    subst hl0
    refine wpList_append_own_none hgd s x 22 ho B 9 i9 1 Tryd.underlying22 hi v xs.length _ hs hown hx ?_
    exact h v w (by rw [List.append_nil]; exact hown) (Below.refl _ _)
  | some ad =>
    refine wpList_append_own _ hgd s x 22 ho B 9 i9 (.string ByteArray.empty) 1 16 Tryd.underlying22 hi hz0 hz1 hz2 rfl (by decide) v xs.length (xs.map Value.string) hs hown ad ys.length c (ys.map Value.string) hx (by rw [List.length_map, Nat.mul_one]) ?_ (onesT _) (by unfold maxLen; omega) (by omega) hB ?_
    · intro j u hu
      rw [List.getElem?_map] at hu
      obtain ⟨t, ht, rfl⟩ := Option.map_eq_some_iff.1 hu
      have hj := (List.getElem?_eq_some_iff.1 ht).1
      rcases hr with h0 | ⟨b, off, e, hcell⟩
      · omega
      · have e := Option.some.inj e
        subst e
        rw [Addr.add_mid, hcell j hj, List.getD_eq_getElem?_getD, ht]
        rfl
    · intro p' w5 ho5 hg hnn
      refine h p' w5 ?_ (Below.grown (Below.refl _ _) hg hB (fun jj hj => (World.ownsRow.lt hown _ hj).1))
      unfold OwT
      rw [List.length_append, List.map_append]
      exact ho5
set_option maxRecDepth 100000 in
theorem wpList_appN (hgd : o.guard = none) (s x : Operand) (ho : o.op = .call { callee := .builtin .append, args := #[s, x], argTypes := #[41, 41] }) (B : Nat) (v y : Value) (xs ys : List Int) (hs : a.eval s = v) (hown : OwI w B v xs) (hx : a.eval x = y) (hy : ReadsI w y ys) (hno : ∀ k c, y = .slice none k c → c = 0) (hb : (xs.length + ys.length) * 8 ≤ 140737488355328) (hB : B ≤ w.heap.size)
    (h : ∀ v' w', OwI w' B v' (xs ++ ys) → Below B w w' → wpList Tryd.prog ops Q rest (a.put o.dst v') w') : wpList Tryd.prog ops Q (o :: rest) a w := by
  obtain ⟨i9, hi, hz0, hz1, hz2⟩ := cs.info_parts hi9i
  obtain ⟨ad, c, rfl, hc, hr⟩ := hy
  cases ad with
  | none =>
    have hc0 := hno _ _ rfl
    subst hc0
    have hl0 : ys = [] := List.length_eq_zero_iff.1 (by omega)
    subst hl0
    refine wpList_append_own_none hgd s x 41 ho B 3 i9 1 Tryd.underlying41 hi v xs.length _ hs hown hx ?_
    exact h v w (by rw [List.append_nil]; exact hown) (Below.refl _ _)
  | some ad =>
    refine wpList_append_own _ hgd s x 41 ho B 3 i9 (.int .i64 0) 1 8 Tryd.underlying41 hi hz0 hz1 hz2 rfl (by decide) v xs.length (xs.map (Value.int .i64)) hs hown ad ys.length c (ys.map (Value.int .i64)) hx (by rw [List.length_map, Nat.mul_one]) ?_ (onesI _) (by unfold maxLen; omega) (by omega) hB ?_
    · intro j u hu
      rw [List.getElem?_map] at hu
      obtain ⟨t, ht, rfl⟩ := Option.map_eq_some_iff.1 hu
      have hj := (List.getElem?_eq_some_iff.1 ht).1
      rcases hr with h0 | ⟨b, off, e, hcell⟩
      · omega
      · have e := Option.some.inj e
        subst e
        rw [Addr.add_mid, hcell j hj, List.getD_eq_getElem?_getD, ht]
        rfl
    · intro p' w5 ho5 hg hnn
      refine h p' w5 ?_ (Below.grown (Below.refl _ _) hg hB (fun jj hj => (World.ownsRow.lt hown _ hj).1))
      unfold OwI
      rw [List.length_append, List.map_append]
      exact ho5
end
-- how often a text stands in a list
def cn (x : ByteArray) (L : List ByteArray) : Nat := L.countP (fun y => decide (x = y))
theorem cn_step (x : ByteArray) (L : List ByteArray) {j : Nat} {y : ByteArray} (h : L[j]? = some y) : cn x (L.take (j + 1)) = cn x (L.take j) + if x = y then 1 else 0 := by
  obtain ⟨hj, rfl⟩ := List.getElem?_eq_some_iff.1 h
  unfold cn
  rw [List.take_add_one, List.getElem?_eq_getElem hj, List.countP_append]
  by_cases e : x = L[j]
  · rw [if_pos e]
    simp [e]
  · rw [if_neg e]
    simp [e]
theorem cn_le (x : ByteArray) (L : List ByteArray) : cn x L ≤ L.length := List.countP_le_length
theorem beq_yes {x y : ByteArray} (h : x = y) : (x.toList == y.toList) = true := by rw [h]; exact beq_self_eq_true _
theorem readAt {w : World} {a : Option Addr} {n cap : Nat} {L : List ByteArray} (h : ReadsT w (.slice a n cap) L) {k : Nat} {x : ByteArray} (hx : L[k]? = some x) : ∃ b off, a = some ⟨b, off, none⟩ ∧ w.cell? ⟨b, off + k, none⟩ = some (.string x) := s1.textAt h hx
set_option maxRecDepth 100000 in
set_option maxHeartbeats 3200000 in
theorem onceY (u v : Value) (L M : List ByteArray) (w : World) (h1 : ReadsT w u L) (h2 : ReadsT w v M) (hp : L.Perm M) (hz : L.length ≤ 100000) :
    Calls Tryd.prog 23 #[u, v] w fun e w' => e = .returned (.bool true) ∧ Below w.heap.size w w' := by
  have H1 : Hid (ReadsT w u L) := h1
  have H2 : Hid (ReadsT w v M) := h2
  have HP : Hid (∀ x, cn x M = cn x L) := fun x => (hp.countP_eq _).symm
  obtain ⟨a, cap, rfl, _⟩ := h1
  obtain ⟨a', cap', rfl, _⟩ := h2
  obtain ⟨n, HN⟩ : ∃ n, Hid (L.length = n) := ⟨_, rfl⟩
  have HM : Hid (M.length = n) := by show _ = _; rw [← HN.out]; exact hp.length_eq.symm
  rw [HN.out] at H1 hz ⊢
  rw [HM.out] at H2 ⊢
  have qn : ((n : Int) == (n : Int)) = true := beq_self_eq_true _
  clear hp
  go_enter Tryd.func23, Tryd.ntmps23
  go_wp2
  go_loopw [5] (fun i wr => ∃ k : Nat, k ≤ n ∧ i = .int .i64 k ∧ Hid (∃ m, wr = w.drewN m)) (fun i _ => (n - intOf i).toNat)
  case atStart => exact ⟨0, by omega, rfl, 0, rfl⟩
  case round =>
    obtain ⟨k, hk, rfl, HB⟩ := hrel
    by_cases hlt : k < n
    · have hlt' : (k : Int) < n := by omega
      have hkx : k < L.length := by rw [HN.out]; exact hlt
      obtain ⟨x, HX⟩ : ∃ x, Hid (L[k]? = some x) := ⟨_, List.getElem?_eq_getElem hkx⟩
      obtain ⟨b, off, rfl, c1⟩ := readAt H1.out HX.out
      obtain ⟨w1, rfl⟩ : ∃ v, v = wr := ⟨_, rfl⟩
      go_wp2
      go_loopw [6, 7] (fun t i wr => ∃ j : Nat, j ≤ n ∧ i = .int .i64 j ∧ t = .int .i64 (cn x (M.take j) : Nat) ∧ Hid (∃ m, wr = w.drewN m)) (fun _ i _ => (n - intOf i).toNat)
      case atStart => exact ⟨0, by omega, rfl, rfl, HB.out⟩
      case round =>
        clear HB
        obtain ⟨j, hj, rfl, rfl, HB⟩ := hrel
        have hle := cn_le x (M.take j)
        rw [List.length_take] at hle
        obtain ⟨c, HC⟩ : ∃ c, Hid (cn x (M.take j) = c) := ⟨_, rfl⟩
        rw [HC.out] at hle ⊢
        by_cases hlj : j < n
        · have hlj' : (j : Int) < n := by omega
          have hjx : j < M.length := by rw [HM.out]; exact hlj
          obtain ⟨y, HY⟩ : ∃ y, Hid (M[j]? = some y) := ⟨_, List.getElem?_eq_getElem hjx⟩
          obtain ⟨b', off', rfl, c2⟩ := readAt H2.out HY.out
          have CS := cn_step x M HY.out
          rw [HC.out] at CS
          obtain ⟨m, hm⟩ := HB.out
          subst hm
          by_cases hxy : x = y
          · have q : (x.toList == y.toList) = true := beq_yes hxy
            rw [if_pos hxy] at CS
            have HCS : Hid (cn x (M.take (j + 1)) = c + 1) := CS
            clear HB hxy CS
            go_wp2_with fail
            go_quiet (fail)
            go_wp2
            go_roundw
            case rel => exact ⟨j + 1, by omega, by go_num, by rw [HCS.out]; go_num, _, rfl⟩
            case measure => simp [intOf]; omega
          · have q : (x.toList == y.toList) = false := by rw [bn.beqL]; exact decide_eq_false hxy
            rw [if_neg hxy] at CS
            have HCS : Hid (cn x (M.take (j + 1)) = c) := CS
            clear HB hxy CS
            go_wp2_with fail
            go_quiet (fail)
            go_wp2
            go_roundw
            case rel => exact ⟨j + 1, by omega, by go_num, by rw [HCS.out]; try rfl, _, rfl⟩
            case measure => simp [intOf]; omega
        · have hlj' : ¬ (j : Int) < n := by omega
          have HCN : Hid (cn x L = c) := by show _ = _; rw [← HP.out x, ← HC.out, List.take_of_length_le (by rw [HM.out]; omega)]
          obtain ⟨w2, rfl⟩ : ∃ v, v = wr := ⟨_, rfl⟩
          go_wp2
          go_loopw [8, 9] (fun t i wr => ∃ j : Nat, j ≤ n ∧ i = .int .i64 j ∧ t = .int .i64 (cn x (L.take j) : Nat) ∧ Hid (∃ m, wr = w.drewN m)) (fun _ i _ => (n - intOf i).toNat)
          case atStart => exact ⟨0, by omega, rfl, rfl, HB.out⟩
          case round =>
            clear HB
            obtain ⟨q, hq, rfl, rfl, HB⟩ := hrel
            have hle2 := cn_le x (L.take q)
            rw [List.length_take] at hle2
            obtain ⟨d, HD⟩ : ∃ c, Hid (cn x (L.take q) = c) := ⟨_, rfl⟩
            rw [HD.out] at hle2 ⊢
            by_cases hlq : q < n
            · have hlq' : (q : Int) < n := by omega
              have hqx : q < L.length := by rw [HN.out]; exact hlq
              obtain ⟨y, HY⟩ : ∃ y, Hid (L[q]? = some y) := ⟨_, List.getElem?_eq_getElem hqx⟩
              obtain ⟨b2, off2, eb, c2⟩ := readAt H1.out HY.out
              have eb2 : b2 = b ∧ off2 = off := by injection eb with e1; injection e1 with e2 e3; exact ⟨e2.symm, e3.symm⟩
              obtain ⟨rfl, rfl⟩ := eb2
              clear eb
              have CS := cn_step x L HY.out
              rw [HD.out] at CS
              obtain ⟨m, hm⟩ := HB.out
              subst hm
              by_cases hxy : x = y
              · have q' : (x.toList == y.toList) = true := beq_yes hxy
                rw [if_pos hxy] at CS
                have HCS : Hid (cn x (L.take (q + 1)) = d + 1) := CS
                clear HB hxy CS
                go_wp2_with fail
                go_quiet (fail)
                go_wp2
                go_roundw
                case rel => exact ⟨q + 1, by omega, by go_num, by rw [HCS.out]; go_num, _, rfl⟩
                case measure => simp [intOf]; omega
              · have q' : (x.toList == y.toList) = false := by rw [bn.beqL]; exact decide_eq_false hxy
                rw [if_neg hxy] at CS
                have HCS : Hid (cn x (L.take (q + 1)) = d) := CS
                clear HB hxy CS
                go_wp2_with fail
                go_quiet (fail)
                go_wp2
                go_roundw
                case rel => exact ⟨q + 1, by omega, by go_num, by rw [HCS.out]; try rfl, _, rfl⟩
                case measure => simp [intOf]; omega
            · have hlq' : ¬ (q : Int) < n := by omega
              have hdc : d = c := by rw [← HD.out, ← HCN.out, List.take_of_length_le (by rw [HN.out]; omega)]
              subst hdc
              have qd : ((d : Int) == (d : Int)) = true := beq_self_eq_true _
              go_wp2
              go_roundw
              case rel => exact ⟨k + 1, by omega, by go_num, HB.out⟩
              case measure => simp [intOf]; omega
    · have hlt' : ¬ (k : Int) < n := by omega
      have B9 : Hid (Below w.heap.size w wr) := by obtain ⟨m, rfl⟩ := HB.out; exact below_dN (Below.refl _ _) m
      go_wp2
      go_ret
      exact ⟨rfl, B9.out⟩
end Go.Proofs.YtmmbkfagchaocaaDoor.v3

namespace Go.Proofs.YtmmbkfagchaocaaDoor.v4
open Go.RowKit Go.PlainAid
open Go.Proofs.YtmmbkfagchaocaaDoor.pl Go.Proofs.YtmmbkfagchaocaaDoor.pi Go.Proofs.YtmmbkfagchaocaaDoor.pj Go.Proofs.YtmmbkfagchaocaaDoor.rf Go.Proofs.YtmmbkfagchaocaaDoor.cp Go.Proofs.YtmmbkfagchaocaaDoor.cs Go.Proofs.YtmmbkfagchaocaaDoor.ca Go.Proofs.YtmmbkfagchaocaaDoor.cb Go.Proofs.YtmmbkfagchaocaaDoor.ka Go.Proofs.YtmmbkfagchaocaaDoor.kb Go.Proofs.YtmmbkfagchaocaaDoor.ga Go.Proofs.YtmmbkfagchaocaaDoor.aa Go.Proofs.YtmmbkfagchaocaaDoor.ab Go.Proofs.YtmmbkfagchaocaaDoor.ad Go.Proofs.YtmmbkfagchaocaaDoor.ae Go.Proofs.YtmmbkfagchaocaaDoor.ac Go.Proofs.YtmmbkfagchaocaaDoor.tb Go.Proofs.YtmmbkfagchaocaaDoor.bc Go.Proofs.YtmmbkfagchaocaaDoor.bd Go.Proofs.YtmmbkfagchaocaaDoor.bh Go.Proofs.YtmmbkfagchaocaaDoor.bi Go.Proofs.YtmmbkfagchaocaaDoor.bj Go.Proofs.YtmmbkfagchaocaaDoor.bp Go.Proofs.YtmmbkfagchaocaaDoor.bt Go.Proofs.YtmmbkfagchaocaaDoor.mi Go.Proofs.YtmmbkfagchaocaaDoor.mp Go.Proofs.YtmmbkfagchaocaaDoor.mq Go.Proofs.YtmmbkfagchaocaaDoor.sa Go.Proofs.YtmmbkfagchaocaaDoor.sc Go.Proofs.YtmmbkfagchaocaaDoor.sd Go.Proofs.YtmmbkfagchaocaaDoor.se Go.Proofs.YtmmbkfagchaocaaDoor.sm Go.Proofs.YtmmbkfagchaocaaDoor.sn Go.Proofs.YtmmbkfagchaocaaDoor.sr Go.Proofs.YtmmbkfagchaocaaDoor.su Go.Proofs.YtmmbkfagchaocaaDoor.v1 Go.Proofs.YtmmbkfagchaocaaDoor.v2 Go.Proofs.YtmmbkfagchaocaaDoor.v3
open Go.Proofs.YtmmbkfagchaocaaDoor.s2 (Clu wpList_appS)
open Go.Proofs.YtmmbkfagchaocaaDoor.s8 (new1 hiSS und1)
set_option linter.unusedVariables false

-- the state, with a bound on what was asked
def Sq (B : Nat) (w0 : World) (wd : Int) (n sb base tb : Nat) (R : List Nat) (av : Value) (zs : List Int) (H : List (List (Value × List Value))) (S : List (Value × List Value)) (X : Nat) (w : World) : Prop := ∃ F l, l.length ≤ X ∧ St B w0 wd n sb base tb R av zs H S F l w
section
variable {B : Nat} {w0 w w' : World} {wd : Int} {n sb base tb : Nat} {R R' : List Nat} {av av' : Value} {zs zs' : List Int} {H H' : List (List (Value × List Value))} {S S' : List (Value × List Value)} {X : Nat}
theorem Sq.map (h : Sq B w0 wd n sb base tb R av zs H S X w) (f : ∀ {F l}, St B w0 wd n sb base tb R av zs H S F l w → St B w0 wd n sb base tb R' av' zs' H' S' F l w') : Sq B w0 wd n sb base tb R' av' zs' H' S' X w' := by
  obtain ⟨F, l, hl, h⟩ := h
  exact ⟨F, l, hl, f h⟩
theorem Sq.get (h : Sq B w0 wd n sb base tb R av zs H S X w) {P : Prop} (f : ∀ {F l}, St B w0 wd n sb base tb R av zs H S F l w → P) : P := by
  obtain ⟨F, l, hl, h⟩ := h
  exact f h
theorem Sq.later (h : Sq B w0 wd n sb base tb R av zs H S X w) (b : Below w.heap.size w w') : Sq B w0 wd n sb base tb R av zs H S X w' := h.map fun k => k.later b
theorem Sq.cells (h : Sq B w0 wd n sb base tb R av zs H S X w) {rb : Nat} (hr : rb ∈ R) : w.cell? ⟨rb, 0, none⟩ = some (.int .i64 wd) ∧ w.cell? ⟨rb, 1, none⟩ = some (.int .i64 n) ∧ w.cell? ⟨rb, 2, none⟩ = some (.func (.func 56) #[.pointer (some ⟨tb, 0, none⟩)] #[]) := h.get fun k => (k.r rb hr).cells
theorem Sq.fr (h : Sq B w0 wd n sb base tb R av zs H S X w) : Below w0.heap.size w0 w := h.get fun k => k.fr
theorem Sq.read (h : Sq B w0 wd n sb base tb R av zs H S X w) {k : Nat} {v : Value} {L : List ByteArray} (hk : H[k]? = some [(v, L.map Value.string)]) : ReadsT w v L := h.get fun q => q.read hk
theorem Sq.own (h : Sq B w0 wd n sb base tb R av zs H S X w) {k m cp : Nat} {a : Option Addr} {xs : List Value} {c : List (Value × List Value)} (hk : H[k]? = some c) (hv : (.slice a m cp, xs) ∈ c) : w.ownsRow B 9 1 (.slice a m cp) m xs := h.get fun q => q.own hk hv
theorem Sq.size (h : Sq B w0 wd n sb base tb R av zs H S X w) : B ≤ w.heap.size := h.get fun q => q.hB.2.2.2
-- what a question leaves
def Ans (B : Nat) (w0 : World) (wd : Int) (n sb base tb : Nat) (R : List Nat) (av : Value) (zs : List Int) (H : List (List (Value × List Value))) (S : List (Value × List Value)) (X : Nat) (Hs : List ByteArray) (m : Nat) (e : Ending) (w' : World) : Prop := ∃ ua uc, e = .returned (.tuple #[.slice ua m uc, .int .i64 0]) ∧ Sq B w0 wd n sb base tb R av zs (H ++ [[(.slice ua m uc, Hs.map Value.string)]]) S (X + 400000) w'
theorem ans_of {F : Nat → Prop} {l : List (Nat × Nat)} (h : St B w0 wd n sb base tb R av zs H S F l w) (hl : l.length ≤ X) {f : List (Nat × Nat) → List ByteArray × Int × List (Nat × Nat)} {Hs : List ByteArray} {b m : Nat} (hs : Says f Hs b) (hb : b ≤ 6400) (hm : Hs.length = m) {e : Ending} (hP : Proved (TJ (mds wd n) sb (.slice none 0 0) base tb) F w (f l) e w') : Ans B w0 wd n sb base tb R av zs H S X Hs m e w' := by
  obtain ⟨Q, hq, _, hf⟩ := hs
  obtain ⟨ua, uc, F', rfl, hs⟩ := h.asked (hf l) hP
  subst hm
  exact ⟨ua, uc, rfl, F', _, by rw [List.length_append]; omega, hs⟩
theorem askR (h : Sq B w0 wd n sb base tb R av zs H S X w) (hX : X ≤ 1000000000) (hwd : i64 wd) {lo hi : Nat} {Hs : List ByteArray} {b m : Nat} (hs : Says (fun l => rngA wd (askS (mds wd n)) n lo hi n l) Hs b) (hb : b ≤ 6400) (hm : Hs.length = m) : Calls Tryd.prog 16 #[RV wd n tb, .int .i64 lo, .int .i64 hi, .int .i64 n] w (Ans B w0 wd n sb base tb R av zs H S X Hs m) := by
  obtain ⟨F, l, hl, h⟩ := h
  exact (rangeC (rdl wd n sb base tb) wd n lo hi n hwd F l w (by omega) h.j).mono fun e w' hp => ans_of h hl hs hb hm hp
theorem askI (h : Sq B w0 wd n sb base tb R av zs H S X w) (hX : X ≤ 1000000000) (hwd : i64 wd) {i : Nat} {Hs : List ByteArray} {b m : Nat} (hs : Says (fun l => incA wd (askS (mds wd n)) n i n l) Hs b) (hb : b ≤ 6400) (hm : Hs.length = m) : Calls Tryd.prog 17 #[RV wd n tb, .int .i64 i, .int .i64 n] w (Ans B w0 wd n sb base tb R av zs H S X Hs m) := by
  obtain ⟨F, l, hl, h⟩ := h
  exact (inclC (rdl wd n sb base tb) wd n i n hwd F l w (by omega) h.j).mono fun e w' hp => ans_of h hl hs hb hm hp
theorem askC (h : Sq B w0 wd n sb base tb R av zs H S X w) (hX : X ≤ 1000000000) (hwd : i64 wd) {i : Nat} {Hs : List ByteArray} {b m : Nat} (hs : Says (fun l => conA wd (askS (mds wd n)) n i n l) Hs b) (hb : b ≤ 6400) (hm : Hs.length = m) : Calls Tryd.prog 18 #[RV wd n tb, .int .i64 i, .int .i64 n] w (Ans B w0 wd n sb base tb R av zs H S X Hs m) := by
  obtain ⟨F, l, hl, h⟩ := h
  exact (consC (rdl wd n sb base tb) wd n i n hwd F l w (by omega) h.j).mono fun e w' hp => ans_of h hl hs hb hm hp
theorem askM (h : Sq B w0 wd n sb base tb R av zs H S X w) (hX : X ≤ 1000000000) (hwd : i64 wd) {v : Value} {ys : List Int} (hV : ReadsI w v ys) (hy : ys.length ≤ 1024) {Hs : List ByteArray} {b m : Nat} (hs : Says (fun l => mulA wd (askS (mds wd n)) n ys n l) Hs b) (hb : b ≤ 6400) (hm : Hs.length = m) : Calls Tryd.prog 19 #[RV wd n tb, v, .int .i64 n] w (Ans B w0 wd n sb base tb R av zs H S X Hs m) := by
  obtain ⟨F, l, hl, h⟩ := h
  exact (multiC (rdl wd n sb base tb) wd n n v ys hwd F l w (by omega) h.j hV (by omega)).mono fun e w' hp => ans_of h hl hs hb hm hp
end
-- lists of texts in new memory
def zipC (us : List Value) (Ls : List (List ByteArray)) : List (List (Value × List Value)) := List.zipWith (fun u L => [(u, L.map Value.string)]) us Ls
theorem zip_snoc (us : List Value) (Ls : List (List ByteArray)) {k : Nat} {L : List ByteArray} (u : Value) (h : us.length = k) (hL : Ls[k]? = some L) : zipC (us ++ [u]) (Ls.take (k + 1)) = zipC us (Ls.take k) ++ [[(u, L.map Value.string)]] := by
  have hk := (List.getElem?_eq_some_iff.1 hL).1
  unfold zipC
  rw [List.take_add_one, hL, List.zipWith_append (by rw [List.length_take]; omega)]
  rfl
structure Cz (w0 : World) (ov : Value) (k : Nat) (us : List Value) (Ls : List (List ByteArray)) (w : World) : Prop where
  r : w.ownsRow w0.heap.size 22 1 ov k us
  c : Clu w w0.heap.size 9 1 (zipC us (Ls.take k))
  n : us.length = k
  fr : Below w0.heap.size w0 w
theorem Cz.later {w0 w w' : World} {ov : Value} {k : Nat} {us : List Value} {Ls : List (List ByteArray)} (h : Cz w0 ov k us Ls w) (b : Below w.heap.size w w') : Cz w0 ov k us Ls w' := ⟨own_later h.r b, h.c.later b, h.n, over h.fr b⟩
set_option maxRecDepth 100000 in
set_option maxHeartbeats 3200000 in
theorem copiedY (w : World) (b K cap : Nat) (vs : List Value) (Ls : List (List ByteArray)) (hl : vs.length = K) (hl2 : Ls.length = K) (hK : K ≤ 16) (hc : ∀ (j : Nat) (v : Value), vs[j]? = some v → w.cell? ⟨b, j, none⟩ = some v) (hr : ∀ (j : Nat) (v : Value) (L : List ByteArray), vs[j]? = some v → Ls[j]? = some L → ReadsT w v L ∧ (∀ k c, v = .slice none k c → c = 0) ∧ L.length ≤ 1000000) :
    Calls Tryd.prog 20 #[.slice (some ⟨b, 0, none⟩) K cap] w fun e w' => (∃ ka kc us, e = .returned (.slice ka K kc) ∧ us.length = K ∧ w'.ownsRow w.heap.size 22 1 (.slice ka K kc) K us ∧ Clu w' w.heap.size 9 1 (zipC us Ls)) ∧ Below w.heap.size w w' := by
  have HC : Hid (∀ (j : Nat) (v : Value), vs[j]? = some v → w.cell? ⟨b, j, none⟩ = some v) := hc
  have HR : Hid (∀ (j : Nat) (v : Value) (L : List ByteArray), vs[j]? = some v → Ls[j]? = some L → ReadsT w v L ∧ (∀ k c, v = .slice none k c → c = 0) ∧ L.length ≤ 1000000) := hr
  have HV : Hid (vs.length = K ∧ Ls.length = K) := ⟨hl, hl2⟩
  obtain ⟨iS, S1, S2, S3, S4⟩ := cs.info_parts hiSS
  have SS : Hid (Tryd.prog.info? 22 = some iS ∧ iS.zero = some (.slice none 0 0) ∧ iS.size = 1 ∧ iS.bytes = 24) := ⟨S1, S2, S3, S4⟩
  clear hc hr hl hl2 S1 S2 S3 S4
  go_enter Tryd.func20, Tryd.ntmps20
  go_wp2
  go_loopw [3, 4] (fun ov i wr => ∃ (k : Nat) (us : List Value), k ≤ K ∧ i = .int .i64 k ∧ Hid (Cz w ov k us Ls wr)) (fun _ i _ => (K - intOf i).toNat)
  case atStart => exact ⟨0, [], by omega, rfl, ⟨World.ownsRow_nil _ _ _ _, ⟨(fun c h => absurd h (by simp [zipC])), List.Pairwise.nil⟩, rfl, Below.refl _ _⟩⟩
  case round =>
    obtain ⟨k, us, hk, rfl, HZ⟩ := hrel
    obtain ⟨ov, rfl⟩ : ∃ v, v = u3 := ⟨_, rfl⟩
    obtain ⟨w1, rfl⟩ : ∃ v, v = wr := ⟨_, rfl⟩
    by_cases hlt : k < K
    · have hlt' : (k : Int) < K := by omega
      obtain ⟨v, hv⟩ : ∃ v, vs[k]? = some v := ⟨_, List.getElem?_eq_getElem (by rw [HV.out.1]; exact hlt)⟩
      obtain ⟨L, hL⟩ : ∃ L, Ls[k]? = some L := ⟨_, List.getElem?_eq_getElem (by rw [HV.out.2]; exact hlt)⟩
      obtain ⟨r1, r2, r3⟩ := HR.out k v L hv hL
      have c0 := HC.out k v hv
      have c1 : w1.cell? ⟨b, k, none⟩ = some v := (HZ.out.fr.cell (World.block_lt_of_cell? _ _ c0)).trans c0
      have HL : Hid (Ls[k]? = some L ∧ L.length ≤ 1000000) := ⟨hL, r3⟩
      have R1 : Hid (ReadsT w1 v L ∧ ∀ k c, v = .slice none k c → c = 0) := ⟨r1.later HZ.out.fr, r2⟩
      clear r1 r2 r3 c0 hv hL
      go_wp2_with (at_builtin; first
        | (refine wpList_appA rfl _ _ rfl w1.heap.size _ _ [] L rfl (World.ownsRow_nil _ _ _ _) rfl R1.out.1 R1.out.2 (by have := HL.out.2; simp only [List.length_nil]; omega) (Nat.le_refl _) ?_
           intro u w2 p1 p2
           rw [List.nil_append] at p1
           have HO : Hid (OwT w2 w1.heap.size u L ∧ Below w1.heap.size w1 w2) := ⟨p1, p2⟩
           have HZ2 : Hid (Cz w ov k us Ls w2) := HZ.out.later p2
           obtain ⟨ua, uc, hu⟩ := own_formS p1
           have hu' : u = .slice ua L.length uc := hu
           subst hu'
           clear hu p1 p2
           obtain ⟨m, HM⟩ : ∃ m, Hid (L.length = m) := ⟨_, rfl⟩
           rw [HM.out] at HO ⊢
           have BB : Below w2.heap.size w2 (w2.alloc (.cells #[.slice ua m uc] 22)) := (Below.refl _ _).alloc (Nat.le_refl _) _
           have HZ3 : Hid (Cz w ov k us Ls (w2.alloc (.cells #[.slice ua m uc] 22))) := HZ2.out.later BB
           have HO3 : Hid (OwT (w2.alloc (.cells #[.slice ua m uc] 22)) w1.heap.size (.slice ua m uc) L) := own_later HO.out.1 BB
           have N3 : Hid (∀ j z, [Value.slice ua m uc][j]? = some z → (w2.alloc (.cells #[.slice ua m uc] 22)).cell? ((⟨w2.heap.size, 0, none⟩ : Addr).add j) = some z) := new1 w2 _ _
           have HB3 : Hid (Below w1.heap.size w1 (w2.alloc (.cells #[.slice ua m uc] 22))) := over HO.out.2 BB
           clear BB HZ2)
        | (refine wpList_appS rfl (.tmp 11) (.tmp 17) 56 rfl w.heap.size 1 22 iS (.slice none 0 0) 24 und1 SS.out.1 SS.out.2.1 SS.out.2.2.1 SS.out.2.2.2 rfl (by decide) _ k us rfl HZ3.out.r ⟨w2.heap.size, 0, none⟩ 1 1 [.slice ua m uc] rfl rfl N3.out (by intro u hu; rw [List.mem_singleton.1 hu]; rfl) (by unfold maxLen; omega) (by omega) HZ3.out.fr.size ?_
           intro ov' w4 p1 p2 p3 p4
           have HZ4 : Hid (Cz w ov' (k + 1) (us ++ [.slice ua m uc]) Ls w4) := by
             have far := s3.Clu.far (Clu.add HZ.out.c HB3.out HO3.out HZ.out.fr.size) HZ3.out.r (by decide) p2
             exact ⟨p1, (by rw [zip_snoc us Ls _ HZ.out.n HL.out.1]; exact far), (by rw [List.length_append, HZ.out.n]; rfl), s3.grown_fr HZ3.out.fr p2 (fun g e => (HZ3.out.r.lt g e).1)⟩
           clear p1 p2 p3 p4))
      go_roundw
      case rel => exact ⟨k + 1, _, by omega, by go_num, HZ4⟩
      case measure => simp [intOf]; omega
    · have hlt' : ¬ (k : Int) < K := by omega
      obtain rfl : k = K := by omega
      obtain ⟨ka, kc, rfl⟩ := own_formS HZ.out.r
      go_wp2
      go_ret
      refine ⟨⟨ka, kc, rfl, us, HZ.out.n, HZ.out.r, ?_⟩, HZ.out.fr⟩
      have := HZ.out.c
      rw [List.take_of_length_le (by rw [HV.out.2]; exact Nat.le_refl _)] at this
      exact this
end Go.Proofs.YtmmbkfagchaocaaDoor.v4

namespace Go.Proofs.YtmmbkfagchaocaaDoor.v5
open Go.RowKit Go.PlainAid
open Go.Proofs.YtmmbkfagchaocaaDoor.pl Go.Proofs.YtmmbkfagchaocaaDoor.pi Go.Proofs.YtmmbkfagchaocaaDoor.pj Go.Proofs.YtmmbkfagchaocaaDoor.rf Go.Proofs.YtmmbkfagchaocaaDoor.cp Go.Proofs.YtmmbkfagchaocaaDoor.cs Go.Proofs.YtmmbkfagchaocaaDoor.ca Go.Proofs.YtmmbkfagchaocaaDoor.cb Go.Proofs.YtmmbkfagchaocaaDoor.ka Go.Proofs.YtmmbkfagchaocaaDoor.kb Go.Proofs.YtmmbkfagchaocaaDoor.ga Go.Proofs.YtmmbkfagchaocaaDoor.aa Go.Proofs.YtmmbkfagchaocaaDoor.ab Go.Proofs.YtmmbkfagchaocaaDoor.ad Go.Proofs.YtmmbkfagchaocaaDoor.ae Go.Proofs.YtmmbkfagchaocaaDoor.ac Go.Proofs.YtmmbkfagchaocaaDoor.tb Go.Proofs.YtmmbkfagchaocaaDoor.bc Go.Proofs.YtmmbkfagchaocaaDoor.bd Go.Proofs.YtmmbkfagchaocaaDoor.bh Go.Proofs.YtmmbkfagchaocaaDoor.bi Go.Proofs.YtmmbkfagchaocaaDoor.bj Go.Proofs.YtmmbkfagchaocaaDoor.bp Go.Proofs.YtmmbkfagchaocaaDoor.bt Go.Proofs.YtmmbkfagchaocaaDoor.mi Go.Proofs.YtmmbkfagchaocaaDoor.mp Go.Proofs.YtmmbkfagchaocaaDoor.mq Go.Proofs.YtmmbkfagchaocaaDoor.sa Go.Proofs.YtmmbkfagchaocaaDoor.sc Go.Proofs.YtmmbkfagchaocaaDoor.sd Go.Proofs.YtmmbkfagchaocaaDoor.se Go.Proofs.YtmmbkfagchaocaaDoor.sm Go.Proofs.YtmmbkfagchaocaaDoor.sn Go.Proofs.YtmmbkfagchaocaaDoor.sr Go.Proofs.YtmmbkfagchaocaaDoor.su Go.Proofs.YtmmbkfagchaocaaDoor.v1 Go.Proofs.YtmmbkfagchaocaaDoor.v2 Go.Proofs.YtmmbkfagchaocaaDoor.v3 Go.Proofs.YtmmbkfagchaocaaDoor.v4
set_option linter.unusedVariables false

theorem own_readsI {w : World} {B : Nat} {v : Value} {zs : List Int} (ho : OwI w B v zs) : ReadsI w v zs := by
  obtain ⟨a, c, e⟩ := own_formS ho
  have e' : v = .slice a zs.length c := e
  subst e'
  refine ⟨a, c, rfl, ?_, ?_⟩
  · rcases ho.2 with ⟨e, e2⟩ | ⟨g, cap, cur, e, _, _, hle, _⟩
    · omega
    · rw [(Value.slice.inj e).2.2]; exact hle
  · by_cases h0 : zs.length = 0
    · exact .inl h0
    · right
      obtain ⟨g, rfl⟩ : ∃ g, a = some ⟨g, 0, none⟩ := by
        rcases ho.2 with ⟨e, e2⟩ | ⟨g, cap, cur, e, _⟩
        · omega
        · exact ⟨g, (Value.slice.inj e).1⟩
      refine ⟨g, 0, rfl, fun i hi => ?_⟩
      rw [Nat.zero_add, World.ownsRow.cellAt ho i (by omega), List.getElem?_map, List.getD_eq_getElem?_getD, List.getElem?_eq_getElem hi]
      rfl
theorem three {w : World} {x y z : Value} {t : TypeId} : (w.alloc (.cells #[x, y, z] t)).cell? ⟨w.heap.size, 0, none⟩ = some x ∧ (w.alloc (.cells #[x, y, z] t)).cell? ⟨w.heap.size, 1, none⟩ = some y ∧ (w.alloc (.cells #[x, y, z] t)).cell? ⟨w.heap.size, 2, none⟩ = some z := by
  refine ⟨?_, ?_, ?_⟩ <;> (rw [World.cell?_alloc_at _ _ _ _ rfl]; rfl)
theorem cellsI {w : World} {g k cp : Nat} {zs : List Int} (h : ReadsI w (.slice (some ⟨g, 0, none⟩) k cp) zs) : ∀ j u, (zs.map (Value.int .i64))[j]? = some u → w.cell? ((⟨g, 0, none⟩ : Addr).add j) = some u := by
  intro j u hu
  rw [List.getElem?_map] at hu
  obtain ⟨t, ht, rfl⟩ := Option.map_eq_some_iff.1 hu
  have hj := (List.getElem?_eq_some_iff.1 ht).1
  obtain ⟨a, c, e, _, hr⟩ := h
  rcases hr with h0 | ⟨b, off, e2, hcell⟩
  · omega
  · have e3 := (Value.slice.inj e).1
    rw [e2] at e3
    have e4 := Option.some.inj e3
    have e5 : g = b := congrArg Addr.block e4
    have e6 : 0 = off := congrArg Addr.off e4
    subst e5 e6
    rw [Addr.add_mid, hcell j hj, List.getD_eq_getElem?_getD, ht]
    rfl
theorem below_dr {B : Nat} {a w : World} (h : Below B a w) : Below B a w.drew := ⟨h.os, h.tape, h.output, h.size, h.block⟩
theorem step_multi {ops : Array Oper} {o : Oper} {a : Act} {w : World} {K : Act → World → Prop} {Q : Exit → Act → World → Prop} {E : Prop} (hg : o.guard = none) (k1 k2 k3 d : Nat)
    (hop : o.op = .call { callee := .value (.func 19), args := #[.tmp k1, .tmp k2, .tmp k3], argTypes := #[48, 41, 3] }) (hd : o.dst = some d) (x1 x2 x3 : Value)
    (h1 : a.tmps[k1]?.getD undef = x1) (h2 : a.tmps[k2]?.getD undef = x2) (h3 : a.tmps[k3]?.getD undef = x3) (P : Ending → World → Prop) (C : Hid (Calls Tryd.prog 19 #[x1, x2, x3] w P)) (hN : ∀ e w', P e w' → ∃ v, e = .returned v)
    (hK : ∀ v w', P (.returned v) w' → K { tmps := a.tmps.setIfInBounds d v, defers := a.defers } w') :
    if Region.wanted o (yielded ops a.tmps) = true then Oper.wp Tryd.prog o a w K Q else E := by
  have hw : Region.wanted o (yielded ops a.tmps) = true := by simp [Region.wanted, hg]
  rw [if_pos hw]
  have HKK : Hid _ := hK
  have HNN : Hid _ := hN
  clear hK hN
  subst h1 h2 h3
  unfold Oper.wp execOp
  simp only [hop]
  go_simp
  refine C.out.mono ?_
  intro e w' hp
  obtain ⟨v, rfl⟩ := HNN.out e w' hp
  exact HKK.out _ _ hp
set_option maxRecDepth 100000 in
set_option maxHeartbeats 3200000 in
theorem movedY {B : Nat} {w0 : World} {wd : Int} {n sb base tb : Nat} {R : List Nat} {H : List (List (Value × List Value))} {S : List (Value × List Value)} {X : Nat} (w : World) (g cp lo k : Nat) (hX : X ≤ 100000000) (hwd : i64 wd) (hk : 1 ≤ k) (hk2 : k ≤ 100) (hn1 : 1 ≤ n) (hn2 : n ≤ 4611686018427387904) (hlt : lo + k < n)
    (hS : Sq B w0 wd n sb base tb R (.slice (some ⟨g, 0, none⟩) k cp) (atL lo k) H S X w) :
    Calls Tryd.prog 24 #[RV wd n tb, .slice (some ⟨g, 0, none⟩) k cp, .int .i64 (lo + k : Nat), .int .i64 n] w fun e w' => e = .returned (.bool true) ∧ Below w0.heap.size w0 w' := by
  have S1 : Sq B w0 wd n sb base tb (w.heap.size :: R) (.slice (some ⟨g, 0, none⟩) k cp) (atL lo k) H S X (w.alloc (RO wd n tb)) := hS.map fun q => q.box
  have hown : (w.alloc (RO wd n tb)).ownsRow w0.heap.size 3 1 (.slice (some ⟨g, 0, none⟩) k cp) k ((atL lo k).map (Value.int .i64)) := S1.get fun q => by have := q.a; rw [atL_len] at this; exact this
  have hkcp : k ≤ cp := by
    rcases hown.2 with ⟨e, _⟩ | ⟨g', cap', cur, e, _, _, hc, _⟩
    · exact absurd (Value.slice.inj e).1 (by simp)
    · have := (Value.slice.inj e).2.2; omega
  have S2 := S1.map (fun q => q.setInt rfl ((lo + k : Nat) : Int) (i := k - 1))
  have hl : ((atL lo k).map (Value.int .i64)).length = k := by rw [List.length_map, atL_len]
  obtain ⟨u1, c1⟩ : ∃ u, (w.alloc (RO wd n tb)).cell? ⟨g, k - 1, none⟩ = some u := ⟨((atL lo k).map (Value.int .i64))[k - 1]'(by omega), by rw [World.ownsRow.cellAt hown (k - 1) (by omega)]; exact List.getElem?_eq_getElem _⟩
  have f1 := World.ownsRow.frozenAt hown (k - 1)
  obtain ⟨q, HQ⟩ : ∃ q : Nat, Hid (lo + k = q) := ⟨_, rfl⟩
  have S2' : Sq B w0 wd n sb base tb (w.heap.size :: R) (.slice (some ⟨g, 0, none⟩) k cp) (atM lo k) H S X ((w.alloc (RO wd n tb)).setCell ⟨g, k - 1, none⟩ (.int .i64 ((lo + k : Nat) : Int))) := S2
  have hz := (atM_up lo k n hlt).places (by rw [atM_len]; exact hk) (by rw [atM_len]; omega)
  have hs := says_mul wd n (atM lo k) hn1 hn2 hz
  have hb : (atM lo k).length * 62 ≤ 6400 := by rw [atM_len]; omega
  rw [HQ.out] at S2' ⊢
  obtain ⟨j, HJ⟩ : ∃ j, Hid (k - 1 = j) := ⟨_, rfl⟩
  rw [HJ.out] at S2' c1 f1
  have j1 : (k : Int) - 1 = (j : Int) := by have := HJ.out; omega
  have j2 : j < k := by have := HJ.out; omega
  have j3 : (j : Int) < k := by omega
  obtain ⟨W2, HW2⟩ : ∃ W, (w.alloc (RO wd n tb)).setCell ⟨g, j, none⟩ (.int .i64 (q : Int)) = W := ⟨_, rfl⟩
  rw [HW2] at S2'
  obtain ⟨Hs, HH⟩ : ∃ Hs, hsW wd (WL (lkM (natL (atM lo k))) 0 n) = Hs := ⟨_, rfl⟩
  rw [HH] at hs
  obtain ⟨m, HM⟩ : ∃ m, Hs.length = m := ⟨_, rfl⟩
  have hm : m ≤ 6400 := by obtain ⟨_, _, h, _⟩ := hs; omega
  obtain ⟨zs, HZ⟩ : ∃ zs, atM lo k = zs := ⟨_, rfl⟩
  have hzl : zs.length = k := by rw [← HZ]; exact atM_len lo k
  rw [HZ] at S2' hs hb
  have hws : wd = wd := rfl
  have AM : Hid (∀ (v : Value) (H' : List (List (Value × List Value))) (X' : Nat) (W : World), X' ≤ 1000000000 → Sq B w0 wd n sb base tb (w.heap.size :: R) (.slice (some ⟨g, 0, none⟩) k cp) zs H' S X' W → ReadsI W v zs → Calls Tryd.prog 19 #[RV wd n tb, v, .int .i64 n] W (Ans B w0 wd n sb base tb (w.heap.size :: R) (.slice (some ⟨g, 0, none⟩) k cp) zs H' S X' Hs m)) := fun v H' X' W h1 h2 h3 => askM h2 h1 hwd h3 (by rw [hzl]; omega) hs hb HM
  have HS2 : Hid (Sq B w0 wd n sb base tb (w.heap.size :: R) (.slice (some ⟨g, 0, none⟩) k cp) zs H S X W2) := S2'
  have NM : Hid (∀ x w, Calls _ _ _ _ _) := fun x w => bn.num x w
  have HKZ : Hid (zs.length = k ∧ Hs.length = m) := ⟨hzl, HM⟩
  obtain ⟨b1, b2, b3⟩ := HS2.out.cells (List.mem_cons_self)
  clear S1 S2 S2' hown hl hz hs hb HH HM HZ hzl hws HQ HJ
  go_enter Tryd.func24, Tryd.ntmps24
  go_upto_region 2 with fail
  go_wp2_with fail
  refine (AM.out _ H X _ (by omega) HS2.out (HS2.out.get fun q => q.ints)).mono ?_
  rintro e w3 ⟨ua, uc, rfl, hs3⟩
  have HS3 : Hid (Sq B w0 wd n sb base tb (w.heap.size :: R) (.slice (some ⟨g, 0, none⟩) k cp) zs (H ++ [[(.slice ua m uc, Hs.map Value.string)]]) S (X + 400000) w3) := hs3
  clear hs3 b1 b2 b3
  obtain ⟨b1, b2, b3⟩ := HS3.out.cells (List.mem_cons_self)
  go_upto_region 3 with fail
  go_cut [11, 12] (fun x y wx => ∃ va vc, x = .slice va m vc ∧ y = .int .i64 0 ∧ Hid (Sq B w0 wd n sb base tb (w.heap.size :: R) (.slice (some ⟨g, 0, none⟩) k cp) zs ((H ++ [[(.slice ua m uc, Hs.map Value.string)]]) ++ [[(.slice va m vc, Hs.map Value.string)]]) S (X + 400000 + 400000) wx))
  case first =>
    obtain ⟨iI, I1, I2, I3, I4⟩ := cs.info_parts mo.hi9i
    have HIN : Hid (Tryd.prog.info? 3 = some iI ∧ iI.zero = some (.int .i64 0) ∧ iI.size = 1 ∧ iI.bytes = 8) := ⟨I1, I2, I3, I4⟩
    have NW : Hid (∀ j u, (zs.map (Value.int .i64))[j]? = some u → w3.drew.cell? ((⟨g, 0, none⟩ : Addr).add j) = some u) := cellsI ((HS3.out.later (below_dr (Below.refl _ _))).get fun q => q.ints)
    have HLZ : Hid ((zs.map (Value.int .i64)).length = k * 1) := by show _ = _; rw [List.length_map, HKZ.out.1, Nat.mul_one]
    clear I1 I2 I3 I4
    go_region_law ((first
      | (have zz := NW.out; refine step_append_lies _ (by rfl) (.const (.slice none 0 0)) (.tmp 28) 41 (by rfl) w3.heap.size 3 iI (.int .i64 0) 1 8 Tryd.underlying41 HIN.out.1 HIN.out.2.1 HIN.out.2.2.1 HIN.out.2.2.2 rfl (by decide) (.slice none 0 0) 0 [] (by simp [Act.eval]) (World.ownsRow_nil _ _ _ _) ⟨g, 0, none⟩ k cp (zs.map (Value.int .i64)) (by first | (simp [Act.eval]; done) | (simp [Act.eval, Act.put]; done)) HLZ.out NW.out (onesI _) (by omega) (by unfold maxLen; omega) (by omega) (Nat.le_refl _) w3.heap.size rfl ?_
         intro g4 c4 w4 o4 g4' _ _
         have B4 : Below w3.heap.size w3 w4 := Below.grown (below_dr (Below.refl _ _)) g4' (Nat.le_refl _) (fun j hj => by cases hj)
         have RI : Hid (ReadsI w4 (.slice (some ⟨g4, 0, none⟩) k c4) zs) := own_readsI (B := w3.heap.size) (by unfold OwI; rw [HKZ.out.1]; rw [Nat.zero_add, List.nil_append] at o4; exact o4)
         have HS4 : Hid (Sq B w0 wd n sb base tb (w.heap.size :: R) (.slice (some ⟨g, 0, none⟩) k cp) zs (H ++ [[(.slice ua m uc, Hs.map Value.string)]]) S (X + 400000) w4) := HS3.out.later B4
         obtain ⟨d1, d2, d3⟩ := HS4.out.cells (List.mem_cons_self)
         have CC : Hid (Calls _ _ _ _ _) := AM.out _ _ _ _ (by omega) HS4.out RI.out
         rw [Nat.zero_add]
         clear o4 g4' B4 zz NW)
      | (have zz := CC.out; refine step_multi (by rfl) 27 29 30 31 (by rfl) (by rfl) _ _ _ (by simp) (by simp) (by simp) _ CC (by rintro e w' ⟨va, vc, rfl, _⟩; exact ⟨_, rfl⟩) ?_
         intro v w5 hp
         obtain ⟨va, vc, ev, hs5⟩ := hp
         have HS5 : Hid (Sq B w0 wd n sb base tb (w.heap.size :: R) (.slice (some ⟨g, 0, none⟩) k cp) zs ((H ++ [[(.slice ua m uc, Hs.map Value.string)]]) ++ [[(.slice va m vc, Hs.map Value.string)]]) S (X + 400000 + 400000) w5) := hs5
         injection ev with ev
         subst ev
         clear hs5 zz CC)))
    all_goals (go_wp2; go_meet; exact ⟨va, vc, rfl, rfl, HS5⟩)
  case rest =>
  obtain ⟨va, vc, rfl, rfl, HS5⟩ := hcut
  obtain ⟨w5, rfl⟩ : ∃ v, v = wc := ⟨_, rfl⟩
  have R1 : ReadsT w5 (.slice ua m uc) Hs := HS5.out.read (k := H.length) (by rw [List.append_assoc, List.getElem?_append_right (Nat.le_refl _), Nat.sub_self]; rfl)
  have R2 : ReadsT w5 (.slice va m vc) Hs := HS5.out.read (k := H.length + 1) (by rw [List.append_assoc, List.getElem?_append_right (by omega), Nat.add_sub_cancel_left]; rfl)
  have CS : Hid (Calls _ _ _ _ _) := bn.same (.slice ua m uc) (.slice va m vc) Hs Hs w5 R1 R2 (by have := HKZ.out.2; omega)
  rw [decide_eq_true rfl] at CS
  have FR : Hid (Below w0.heap.size w0 w5) := HS5.out.fr
  clear R1 R2
  go_wp2_with fail
  refine (NM.out _ _).mono ?_
  rintro e w6 ⟨rfl, hw⟩
  subst hw
  go_wp2_with fail
  refine (NM.out _ _).mono ?_
  rintro e w7 ⟨rfl, hw⟩
  subst hw
  go_wp2_with fail
  refine CS.out.mono ?_
  rintro e w8 ⟨rfl, m8, hw⟩
  have B8 : Hid (Below w0.heap.size w0 w8) := by show Below _ _ _; rw [hw]; exact below_dN FR.out m8
  clear hw
  go_wp2
  go_ret
  exact ⟨rfl, B8.out⟩
end Go.Proofs.YtmmbkfagchaocaaDoor.v5

namespace Go.Proofs.YtmmbkfagchaocaaDoor.v6
open Go.RowKit Go.PlainAid
open Go.Proofs.YtmmbkfagchaocaaDoor.pl Go.Proofs.YtmmbkfagchaocaaDoor.pg Go.Proofs.YtmmbkfagchaocaaDoor.cp Go.Proofs.YtmmbkfagchaocaaDoor.cs Go.Proofs.YtmmbkfagchaocaaDoor.ka Go.Proofs.YtmmbkfagchaocaaDoor.ac Go.Proofs.YtmmbkfagchaocaaDoor.mi Go.Proofs.YtmmbkfagchaocaaDoor.v1 Go.Proofs.YtmmbkfagchaocaaDoor.v2 Go.Proofs.YtmmbkfagchaocaaDoor.v3 Go.Proofs.YtmmbkfagchaocaaDoor.v4 Go.Proofs.YtmmbkfagchaocaaDoor.v5
open Go.Proofs.YtmmbkfagchaocaaDoor.s2 (Clu)
set_option linter.unusedVariables false

-- the mark of a list
def mkM (k : Nat) : ByteArray := ⟨#[UInt8.ofNat (48 + k)]⟩
theorem mkM_str (k : Nat) (hk : k ≤ 9) : str [((48 + k : Nat) : Int)] = mkM k := by
  have : ∀ n : Fin 10, str [((48 + n.val : Nat) : Int)] = mkM n.val := by decide
  exact this ⟨k, by omega⟩
theorem convM (W : World) (k c : Nat) (hc : 48 + k = c) (hk : k ≤ 9) : (convert 60 9 (.slice (some ⟨W.heap.size, 0, none⟩) 1 1)).run Tryd.prog (W.alloc (.cells #[.int .u8 (c : Int)] 5)) = .ok (.string (mkM k)) (W.alloc (.cells #[.int .u8 (c : Int)] 5)) := by
  subst hc
  have hcv := own_conv (W.alloc (.cells #[.int .u8 ((48 + k : Nat) : Int)] 5)) W.heap.size (.slice (some ⟨W.heap.size, 0, none⟩) 1 1) [((48 + k : Nat) : Int)] 1 rfl (by omega) (World.ownsRow_lit W #[.int .u8 ((48 + k : Nat) : Int)] 1 (Nat.le_refl _) (by unfold maxLen; omega) rfl)
  rw [mkM_str k hk] at hcv
  exact hcv
theorem convD (W : World) (k c : Nat) (hc : 48 + k = c) (hk : k ≤ 9) : (convert 60 9 (.slice (some ⟨W.heap.size, 0, none⟩) 1 1)).run Tryd.prog (W.alloc (.cells #[.int .u8 (c : Int)] 5)).drew = .ok (.string (mkM k)) (W.alloc (.cells #[.int .u8 (c : Int)] 5)).drew := by
  subst hc
  have hcv := own_conv (W.alloc (.cells #[.int .u8 ((48 + k : Nat) : Int)] 5)).drew W.heap.size (.slice (some ⟨W.heap.size, 0, none⟩) 1 1) [((48 + k : Nat) : Int)] 1 rfl (by omega) (own_later (World.ownsRow_lit W #[.int .u8 ((48 + k : Nat) : Int)] 1 (Nat.le_refl _) (by unfold maxLen; omega) rfl) (below_dr (Below.refl _ _)))
  rw [mkM_str k hk] at hcv
  exact hcv
-- where the five lists stand among the answers
def ix : Nat → Nat
  | 0 => 0
  | 1 => 6
  | 2 => 2
  | 3 => 8
  | _ => 4
theorem ix_inj {s t : Nat} (hs : s < 5) (ht : t < 5) (h : ix s = ix t) : s = t := by
  have : ∀ a b : Fin 5, ix a.val = ix b.val → a = b := by decide
  exact congrArg Fin.val (this ⟨s, hs⟩ ⟨t, ht⟩ h)
structure Mk (V : List Value) (H0 : List (List (Value × List Value))) (j i : Nat) (H : List (List (Value × List Value))) : Prop where
  len : H.length = H0.length
  rest : ∀ q, (∀ t, t < 5 → ix t ≠ q) → H[q]? = H0[q]?
  rows : ∀ t, t < 5 → ∃ a c, ∃ L : List ByteArray, V[t]? = some (.slice a L.length c) ∧ H[ix t]? = some [(.slice a L.length c, L.map Value.string)] ∧ L.length ≤ 6400 ∧ (t < j → ∀ x ∈ L, x = mkM t) ∧ (t = j → ∀ x ∈ L.take i, x = mkM t)
section
variable {V : List Value} {H0 H : List (List (Value × List Value))} {j i : Nat}
theorem Mk.put (h : Mk V H0 j i H) (hj : j < 5) {a : Option Addr} {n c : Nat} {L : List ByteArray} (hL : L.length = n) (hk : H[ix j]? = some [(.slice a n c, L.map Value.string)]) (hi : i < n) : Mk V H0 j (i + 1) (H.set (ix j) [(.slice a n c, (L.set i (mkM j)).map Value.string)]) := by
  have hl := (List.getElem?_eq_some_iff.1 hk).1
  refine ⟨by rw [List.length_set]; exact h.len, fun q hq => ?_, fun t ht => ?_⟩
  · rw [List.getElem?_set_ne (hq j hj)]
    exact h.rest q hq
  · obtain ⟨a', c', L', e1, e2, e3, e4, e5⟩ := h.rows t ht
    by_cases e : t = j
    · subst e
      rw [e2] at hk
      have hk1 := List.cons.inj (Option.some.inj hk)
      have hk2 := Prod.mk.inj hk1.1
      have hk3 := Value.slice.inj hk2.1
      have hk4 : L' = L := (List.map_inj_right (fun a b h => by injection h)).1 hk2.2
      subst hk4
      refine ⟨a', c', L'.set i (mkM t), by rw [List.length_set]; exact e1, ?_, by rw [List.length_set]; exact e3, fun h => absurd h (by omega), fun _ => s4.take_setp (by omega) (e5 rfl) _ rfl⟩
      rw [List.getElem?_set_self hl, List.length_set, hk3.1, hk3.2.2, hL]
    · rw [List.getElem?_set_ne (fun h => e (ix_inj ht hj h.symm))]
      exact ⟨a', c', L', e1, e2, e3, e4, fun h => absurd h e⟩
theorem Mk.next (h : Mk V H0 j i H) {a : Option Addr} {n c : Nat} {L : List ByteArray} (hL : L.length = n) (hk : H[ix j]? = some [(.slice a n c, L.map Value.string)]) (hi : n ≤ i) : Mk V H0 (j + 1) 0 H := by
  refine ⟨h.len, h.rest, fun t ht => ?_⟩
  obtain ⟨a', c', L', e1, e2, e3, e4, e5⟩ := h.rows t ht
  refine ⟨a', c', L', e1, e2, e3, fun hlt => ?_, fun _ x hx => by simp at hx⟩
  by_cases e : t = j
  · subst e
    rw [e2] at hk
    have hk2 := Prod.mk.inj (List.cons.inj (Option.some.inj hk)).1
    have hk4 : L' = L := (List.map_inj_right (fun a b h => by injection h)).1 hk2.2
    subst hk4
    have := e5 rfl
    rw [List.take_of_length_le (by omega)] at this
    exact this
  · exact e4 (by omega)
end
theorem set_same {α : Type} {L : List α} {k : Nat} {x : α} (h : L[k]? = some x) : L.set k x = L := by
  obtain ⟨hk, e⟩ := List.getElem?_eq_some_iff.1 h
  rw [← e]
  exact List.set_getElem_self hk
section
variable {B : Nat} {w0 w w' : World} {wd : Int} {n sb base tb : Nat} {R : List Nat} {av : Value} {zs : List Int} {H : List (List (Value × List Value))} {S : List (Value × List Value)} {X : Nat}
-- both rows of a cluster
theorem Sq.two (h : Sq B w0 wd n sb base tb R av zs H S X w) {k : Nat} {v y : Value} {xs ys : List Value} (hk : H[k]? = some [(v, xs), (y, ys)]) : w.ownsRow B 9 1 v xs.length xs ∧ w.ownsRow B 9 1 y ys.length ys := h.get fun q => by
  have hc := List.mem_of_getElem? hk
  obtain ⟨m1, h1⟩ := q.c.own _ hc (v, xs) (by simp)
  obtain ⟨m2, h2⟩ := q.c.own _ hc (y, ys) (by simp)
  have e1 : xs.length = m1 := by have := h1.1; rw [Nat.mul_one] at this; exact this
  have e2 : ys.length = m2 := by have := h2.1; rw [Nat.mul_one] at this; exact this
  rw [e1, e2]
  exact ⟨h1, h2⟩
theorem Sq.grow1 (h : Sq B w0 wd n sb base tb R av zs H S X w) {k m cp m' : Nat} {a : Option Addr} {y' : Value} {xs ys' : List Value} (hk : H[k]? = some [(.slice a m cp, xs)]) (h1 : w'.ownsRow B 9 1 y' m' ys') (hg : w.grownBy w' (Value.slice a m cp).ownBlock) (hb : y'.ownBlock = (Value.slice a m cp).ownBlock ∨ y'.ownBlock = some w.heap.size) (hkeep : ∀ p k ps, w.ownsRow B 9 1 p k ps → (p.ownBlock = (Value.slice a m cp).ownBlock → k ≤ m) → w'.ownsRow B 9 1 p k ps) : Sq B w0 wd n sb base tb R av zs (H.set k [(.slice a m cp, xs), (y', ys')]) S X w' :=
  h.map fun q => q.app hk (List.mem_singleton.2 rfl) (List.mem_singleton.2 rfl) (q.own hk (List.mem_singleton.2 rfl)) (Nat.le_refl _) (q.own hk (List.mem_singleton.2 rfl)) h1 hg hb hkeep
theorem Sq.grow2 {k m' : Nat} {v y y' : Value} {xs ys ys' : List Value} (hk : k < H.length) (h : Sq B w0 wd n sb base tb R av zs (H.set k [(v, xs), (y, ys)]) S X w) (hle : xs.length ≤ ys.length) (h1 : w'.ownsRow B 9 1 y' m' ys') (hg : w.grownBy w' y.ownBlock) (hb : y'.ownBlock = y.ownBlock ∨ y'.ownBlock = some w.heap.size) (hkeep : ∀ p k ps, w.ownsRow B 9 1 p k ps → (p.ownBlock = y.ownBlock → k ≤ ys.length) → w'.ownsRow B 9 1 p k ps) : Sq B w0 wd n sb base tb R av zs (H.set k [(v, xs), (y', ys')]) S X w' := by
  have e := List.getElem?_set_self (l := H) (a := [(v, xs), (y, ys)]) hk
  have t := Sq.two h e
  have a := h.map fun q => q.app e (List.mem_cons_self) (by simp) t.1 hle t.2 h1 hg hb hkeep
  rw [List.set_set] at a
  exact a
theorem Sq.shut {k : Nat} {p q : Value × List Value} (hk : H[k]? = some [p]) (h : Sq B w0 wd n sb base tb R av zs (H.set k [p, q]) S X w) : Sq B w0 wd n sb base tb R av zs H S X w := by
  have a := h.map fun z => z.shut (List.getElem?_set_self (List.getElem?_eq_some_iff.1 hk).1)
  rw [List.set_set, set_same hk] at a
  exact a
theorem Sq.cellS (h : Sq B w0 wd n sb base tb R av zs H S X w) {i m cp : Nat} {a : Option Addr} {vs : List Value} (hi : S[i]? = some (.slice a m cp, vs)) {j : Nat} {v : Value} (hj : vs[j]? = some v) : ∃ g, a = some ⟨g, 0, none⟩ ∧ w.cell? ⟨g, j, none⟩ = some v := h.get fun q => q.strs hi hj
end
theorem rep_snoc (xs : List Value) (m : Nat) (x : Value) : (xs ++ List.replicate m x) ++ [x] = xs ++ List.replicate (m + 1) x := by rw [List.append_assoc, List.replicate_succ']
-- the first of the places alone
theorem first1 {w : World} {g K cp lo : Nat} (hK : 1 ≤ K) (h : ReadsI w (.slice (some ⟨g, 0, none⟩) K cp) (atL lo K)) : ReadsI w (.slice (some ⟨g, 0, none⟩) 1 cp) (atL lo 1) := by
  obtain ⟨a, c, e, hle, hr⟩ := h
  have e1 := Value.slice.inj e
  rw [atL_len] at hle hr
  rcases hr with h0 | ⟨b, off, e2, hcell⟩
  · omega
  · rw [e2] at e1
    have e3 := Option.some.inj e1.1
    have e5 : g = b := congrArg Addr.block e3
    have e6 : 0 = off := congrArg Addr.off e3
    subst e5 e6
    refine ⟨some ⟨g, 0, none⟩, cp, by rw [atL_len], by rw [atL_len, e1.2.2]; omega, .inr ⟨g, 0, rfl, fun i hi => ?_⟩⟩
    rw [atL_len] at hi
    have := hcell i (by omega)
    rw [atL_get lo K i (by omega)] at this
    rw [atL_get lo 1 i hi]
    exact this
theorem five {us : List Value} (h : us.length = 5) : ∃ a b c d e, us = [a, b, c, d, e] := by
  match us, h with
  | [a, b, c, d, e], _ => exact ⟨a, b, c, d, e, rfl⟩
end Go.Proofs.YtmmbkfagchaocaaDoor.v6
