import Derived.Test.YtjkkijeamcihiaaLc
import Derived.Maps.AppendAt
namespace Go.Proofs.Ytjkkijeamcihiaa.da
open Go.RowKit Go.PlainAid Go.Maps
open Go.Proofs.Ytjkkijeamcihiaa.cp Go.Proofs.Ytjkkijeamcihiaa.kp Go.Proofs.Ytjkkijeamcihiaa.ka Go.Proofs.Ytjkkijeamcihiaa.bn Go.Proofs.Ytjkkijeamcihiaa.ra Go.Proofs.Ytjkkijeamcihiaa.rc Go.Proofs.Ytjkkijeamcihiaa.re Go.Proofs.Ytjkkijeamcihiaa.rg Go.Proofs.Ytjkkijeamcihiaa.sa Go.Proofs.Ytjkkijeamcihiaa.lz Go.Proofs.Ytjkkijeamcihiaa.lc
open Go.Proofs.Ytjkkijeamcihiaa.rl (below_grownBy)
set_option linter.unusedVariables false
set_option linter.unusedSimpArgs false
def vals (l : List (K × V)) : List V := l.map (·.2)
-- the document's cache
structure Dc (g : Nat) (kv vv : Value) (s : St) (w : World) : Prop where
  c0 : w.cell? ⟨g, 0, none⟩ = some (.int .i64 (s.most : Nat))
  c1 : w.cell? ⟨g, 1, none⟩ = some kv
  c2 : w.cell? ⟨g, 2, none⟩ = some vv
  c3 : w.cell? ⟨g, 3, none⟩ = some (.int .i64 (s.hits : Nat))
  c4 : w.cell? ⟨g, 4, none⟩ = some (.int .i64 (s.misses : Nat))
  c5 : w.cell? ⟨g, 5, none⟩ = some (.int .i64 (s.gone : Nat))
  fz : ∀ i, w.frozen? ⟨g, i, none⟩ = false
  ks : ReadsT w kv (keys s.l)
  vs : ReadsT w vv (vals s.l)
  kn : kv.ownBlock = none → kv = .slice none 0 0
  vn : vv.ownBlock = none → vv = .slice none 0 0
  kg : kv.ownBlock ≠ some g
  vg : vv.ownBlock ≠ some g
  len : s.l.length ≤ 4100
def Nw (w : World) (kv : Value) : Prop := ∀ k, kv.ownBlock = some k → w.heap.size ≤ k
section
variable {g : Nat} {kv vv : Value} {s : St} {w w' : World}
theorem Dc.lt (h : Dc g kv vv s w) : g < w.heap.size := World.block_lt_of_cell? _ _ h.c0
theorem Dc.keep {A : Nat → Prop} (h : Dc g kv vv s w) (k : Kp A w w') (hg : ¬ A g) (hk : ∀ j, kv.ownBlock = some j → s.l ≠ [] → ¬ A j) (hv : ∀ j, vv.ownBlock = some j → s.l ≠ [] → ¬ A j) : Dc g kv vv s w' := by
  have ce : ∀ i, w'.cell? ⟨g, i, none⟩ = w.cell? ⟨g, i, none⟩ := fun i => by
    unfold World.cell?
    rw [show (⟨g, i, none⟩ : Addr).block = g from rfl, k.block g h.lt hg]
  have fr : ∀ i, w'.frozen? ⟨g, i, none⟩ = w.frozen? ⟨g, i, none⟩ := fun i => by
    unfold World.frozen?
    rw [show (⟨g, i, none⟩ : Addr).block = g from rfl, k.block g h.lt hg]
  exact ⟨(ce _).trans h.c0, (ce _).trans h.c1, (ce _).trans h.c2, (ce _).trans h.c3, (ce _).trans h.c4, (ce _).trans h.c5, fun i => (fr i).trans (h.fz i), rdT.keep h.ks k (fun j hj hl => hk j hj (by rintro e; exact hl (by rw [e]; rfl))), rdT.keep h.vs k (fun j hj hl => hv j hj (by rintro e; exact hl (by rw [e]; rfl))), h.kn, h.vn, h.kg, h.vg, h.len⟩
theorem Dc.later (h : Dc g kv vv s w) (hb : Below w.heap.size w w') : Dc g kv vv s w' := h.keep (Kp.of_below (A := fun _ => False) hb) (fun e => e) (fun _ _ _ e => e) (fun _ _ _ e => e)
-- a count is written
theorem Dc.cnt {a b c : Nat} {i : Nat} {u : Value} (h : Dc g kv vv s w) (c3 : (w.setCell ⟨g, i, none⟩ u).cell? ⟨g, 3, none⟩ = some (.int .i64 (a : Nat))) (c4 : (w.setCell ⟨g, i, none⟩ u).cell? ⟨g, 4, none⟩ = some (.int .i64 (b : Nat))) (c5 : (w.setCell ⟨g, i, none⟩ u).cell? ⟨g, 5, none⟩ = some (.int .i64 (c : Nat))) (hi : 3 ≤ i) : Dc g kv vv { s with hits := a, misses := b, gone := c } (w.setCell ⟨g, i, none⟩ u) := by
  have ot : ∀ j, j < 3 → (w.setCell ⟨g, i, none⟩ u).cell? ⟨g, j, none⟩ = w.cell? ⟨g, j, none⟩ := fun j hj => World.cell?_setCell_other _ _ _ _ (fun e => by have := congrArg Addr.off e; have : i = j := this; omega)
  have k : Kp (fun k => k = g) w (w.setCell ⟨g, i, none⟩ u) := Kp.setCell _ _ _ _ rfl
  exact ⟨(ot 0 (by omega)).trans h.c0, (ot 1 (by omega)).trans h.c1, (ot 2 (by omega)).trans h.c2, c3, c4, c5, fun j => (World.frozen?_setCell _ _ _ _).trans (h.fz j), rdT.keep h.ks k (fun j hj _ e => h.kg (e ▸ hj)), rdT.keep h.vs k (fun j hj _ e => h.vg (e ▸ hj)), h.kn, h.vn, h.kg, h.vg, h.len⟩
theorem Dc.hit (h : Dc g kv vv s w) (a : Nat) : Dc g kv vv { s with hits := a } (w.setCell ⟨g, 3, none⟩ (.int .i64 (a : Nat))) :=
  Dc.cnt (b := s.misses) (c := s.gone) h (World.cell?_setCell_same _ _ _ h.c3) ((World.cell?_setCell_other _ _ _ _ (by simp)).trans h.c4) ((World.cell?_setCell_other _ _ _ _ (by simp)).trans h.c5) (by omega)
theorem Dc.miss (h : Dc g kv vv s w) (a : Nat) : Dc g kv vv { s with misses := a } (w.setCell ⟨g, 4, none⟩ (.int .i64 (a : Nat))) :=
  Dc.cnt (a := s.hits) (c := s.gone) h ((World.cell?_setCell_other _ _ _ _ (by simp)).trans h.c3) (World.cell?_setCell_same _ _ _ h.c4) ((World.cell?_setCell_other _ _ _ _ (by simp)).trans h.c5) (by omega)
theorem Dc.went (h : Dc g kv vv s w) (a : Nat) : Dc g kv vv { s with gone := a } (w.setCell ⟨g, 5, none⟩ (.int .i64 (a : Nat))) :=
  Dc.cnt (a := s.hits) (b := s.misses) h ((World.cell?_setCell_other _ _ _ _ (by simp)).trans h.c3) ((World.cell?_setCell_other _ _ _ _ (by simp)).trans h.c4) (World.cell?_setCell_same _ _ _ h.c5) (by omega)
-- other lists are laid into it
theorem Dc.lists {l' : List (K × V)} {kx vx : Value} (h : Dc g kv vv s w) (hk : ReadsT w kx (keys l')) (hv : ReadsT w vx (vals l')) (kn : kx.ownBlock = none → kx = .slice none 0 0) (vn : vx.ownBlock = none → vx = .slice none 0 0) (kg : kx.ownBlock ≠ some g) (vg : vx.ownBlock ≠ some g) (hl : l'.length ≤ 4100) :
    Dc g kx vx { s with l := l' } ((w.setCell ⟨g, 1, none⟩ kx).setCell ⟨g, 2, none⟩ vx) := by
  have k : Kp (fun k => k = g) w ((w.setCell ⟨g, 1, none⟩ kx).setCell ⟨g, 2, none⟩ vx) := Kp.trans (A := fun k => k = g) (Kp.setCell _ _ _ _ rfl) (Kp.setCell _ _ _ _ rfl)
  have ot : ∀ j, j ≠ 1 → j ≠ 2 → ((w.setCell ⟨g, 1, none⟩ kx).setCell ⟨g, 2, none⟩ vx).cell? ⟨g, j, none⟩ = w.cell? ⟨g, j, none⟩ := fun j h1 h2 => (World.cell?_setCell_other _ _ _ _ (fun e => h2 (congrArg Addr.off e).symm)).trans (World.cell?_setCell_other _ _ _ _ (fun e => h1 (congrArg Addr.off e).symm))
  refine ⟨(ot 0 (by omega) (by omega)).trans h.c0, ?_, ?_, (ot 3 (by omega) (by omega)).trans h.c3, (ot 4 (by omega) (by omega)).trans h.c4, (ot 5 (by omega) (by omega)).trans h.c5, fun i => by rw [World.frozen?_setCell, World.frozen?_setCell]; exact h.fz i, rdT.keep hk k (fun j hj _ e => kg (e ▸ hj)), rdT.keep hv k (fun j hj _ e => vg (e ▸ hj)), kn, vn, kg, vg, hl⟩
  · rw [World.cell?_setCell_other _ _ _ _ (by simp), World.cell?_setCell_same _ _ _ h.c1]
  · refine World.cell?_setCell_same _ _ _ (u := vv) ?_
    rw [World.cell?_setCell_other _ _ _ _ (by simp)]
    exact h.c2
theorem key_at (h : Dc g kv vv s w) {j : Nat} (hj : j < s.l.length) : ∃ b off c, kv = .slice (some ⟨b, off, none⟩) s.l.length c ∧ b ≠ g ∧ w.cell? ⟨b, off + j, none⟩ = some (.string (s.l[j]).1) := by
  have hl : (keys s.l).length = s.l.length := by unfold keys; rw [List.length_map]
  obtain ⟨a, cap, e, _, h0 | ⟨b, off, rfl, hh⟩⟩ := h.ks
  · omega
  · rw [hl] at e
    have := hh j (by omega)
    refine ⟨b, off, cap, e, fun e2 => h.kg (by rw [e, e2]; rfl), ?_⟩
    rw [this, List.getD_eq_getElem?_getD]
    unfold keys
    rw [List.getElem?_map, List.getElem?_eq_getElem hj]
    rfl
theorem val_at (h : Dc g kv vv s w) {j : Nat} (hj : j < s.l.length) : ∃ b off c, vv = .slice (some ⟨b, off, none⟩) s.l.length c ∧ b ≠ g ∧ w.cell? ⟨b, off + j, none⟩ = some (.string (s.l[j]).2) := by
  have hl : (vals s.l).length = s.l.length := by unfold vals; rw [List.length_map]
  obtain ⟨a, cap, e, _, h0 | ⟨b, off, rfl, hh⟩⟩ := h.vs
  · omega
  · rw [hl] at e
    have := hh j (by omega)
    refine ⟨b, off, cap, e, fun e2 => h.vg (by rw [e, e2]; rfl), ?_⟩
    rw [this, List.getD_eq_getElem?_getD]
    unfold vals
    rw [List.getElem?_map, List.getElem?_eq_getElem hj]
    rfl
theorem k_form (h : Dc g kv vv s w) : ∃ a c, kv = .slice a s.l.length c := by
  obtain ⟨a, cap, e, _⟩ := h.ks
  exact ⟨a, cap, by rw [e]; unfold keys; rw [List.length_map]⟩
theorem placeYes {i : Nat} {k : K} (h : Dc g kv vv s w) (hi : i < s.l.length) (he : (s.l[i]).1 = k) (nd : (keys s.l).Nodup) :
    Calls Try.prog 59 #[pt ⟨g, 0, none⟩, .string k] w fun e w' => e = .returned (.int .i64 (i : Nat)) ∧ w' = w := by
  have HD : Hid (Dc g kv vv s w) := h
  have c1 := h.c1
  have HO : Hid (∀ j (hj : j < s.l.length), j < i → (s.l[j]).1 ≠ k) := fun j hj hji e => by
    have hi2 : i < (keys s.l).length := by unfold keys; rw [List.length_map]; exact hi
    have hj2 : j < (keys s.l).length := by unfold keys; rw [List.length_map]; exact hj
    refine (List.pairwise_iff_getElem.1 nd) j i hj2 hi2 hji ?_
    simp [keys, he, e]
  obtain ⟨n, HN⟩ : ∃ n, Hid (s.l.length = n) := ⟨_, rfl⟩
  have hn4 : (n : Int) ≤ 1000000 := by have := h.len; rw [HN.out] at this; omega
  obtain ⟨ka, kc, hkv⟩ := k_form h
  rw [HN.out] at hkv
  have hin : i < n := by rw [← HN.out]; exact hi
  subst hkv
  clear h nd
  unfold pt
  go_enter Try.func59, Try.ntmps59
  go_wp2
  go_loopw [5] (fun iv wr => ∃ j : Nat, j ≤ i ∧ iv = .int .i64 j ∧ w = wr) (fun iv _ => (i - intOf iv).toNat)
  case atStart => exact ⟨0, Nat.zero_le _, rfl, rfl⟩
  case round =>
    obtain ⟨j, hj, rfl, rfl⟩ := hrel
    have hjn : (j : Int) < n := by omega
    obtain ⟨b, off, c, e, hb, d⟩ := key_at HD.out (j := j) (by rw [HN.out]; omega)
    injection e with e1 _ _
    subst e1
    obtain ⟨x, hx0⟩ : ∃ x, (s.l[j]'(by rw [HN.out]; omega)).1 = x := ⟨_, rfl⟩
    have HX : Hid (_ = x) := hx0
    clear hx0
    rw [HX.out] at d
    by_cases hji : j < i
    · have hx : (x.toList == k.toList) = false := by
        rw [beqL]
        exact decide_eq_false (by rw [← HX.out]; exact HO.out j (by rw [HN.out]; omega) hji)
      go_wp2
      go_roundw
      case rel => exact ⟨j + 1, by omega, by go_num, trivial⟩
      case measure => simp [intOf]; omega
    · obtain rfl : j = i := by omega
      have hx : (x.toList == k.toList) = true := by
        rw [beqL]
        exact decide_eq_true (by rw [← HX.out]; exact he)
      go_wp2
      go_ret
      exact ⟨rfl, rfl⟩
theorem placeNo {k : K} (h : Dc g kv vv s w) (hf : fnd k s.l = none) :
    Calls Try.prog 59 #[pt ⟨g, 0, none⟩, .string k] w fun e w' => e = .returned (.int .i64 (-1)) ∧ w' = w := by
  have HD : Hid (Dc g kv vv s w) := h
  have c1 := h.c1
  have HO : Hid (∀ j (hj : j < s.l.length), (s.l[j]).1 ≠ k) := fun j hj => fnd_none.1 hf _ (List.getElem_mem hj)
  obtain ⟨n, HN⟩ : ∃ n, Hid (s.l.length = n) := ⟨_, rfl⟩
  have hn4 : (n : Int) ≤ 1000000 := by have := h.len; rw [HN.out] at this; omega
  obtain ⟨ka, kc, hkv⟩ := k_form h
  rw [HN.out] at hkv
  subst hkv
  clear h hf
  unfold pt
  go_enter Try.func59, Try.ntmps59
  go_wp2
  go_loopw [5] (fun iv wr => ∃ j : Nat, j ≤ n ∧ iv = .int .i64 j ∧ w = wr) (fun iv _ => (n - intOf iv).toNat)
  case atStart => exact ⟨0, Nat.zero_le _, rfl, rfl⟩
  case round =>
    obtain ⟨j, hj, rfl, rfl⟩ := hrel
    by_cases hjn : j < n
    · have hjn' : (j : Int) < n := by omega
      obtain ⟨b, off, c, e, hb, d⟩ := key_at HD.out (j := j) (by rw [HN.out]; omega)
      injection e with e1 _ _
      subst e1
      obtain ⟨x, hx0⟩ : ∃ x, (s.l[j]'(by rw [HN.out]; omega)).1 = x := ⟨_, rfl⟩
      have HX : Hid (_ = x) := hx0
      clear hx0
      rw [HX.out] at d
      have hx : (x.toList == k.toList) = false := by
        rw [beqL]
        exact decide_eq_false (by rw [← HX.out]; exact HO.out j (by rw [HN.out]; omega))
      go_wp2
      go_roundw
      case rel => exact ⟨j + 1, by omega, by go_num, trivial⟩
      case measure => simp [intOf]; omega
    · have hjn' : decide ((j : Int) < n) = false := by simp; omega
      go_wp2
      go_ret
      exact ⟨rfl, rfl⟩
end
end Go.Proofs.Ytjkkijeamcihiaa.da
