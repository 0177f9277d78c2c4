import Derived.Test.YthmfljjpanghgaaDoorL4
import Derived.Test.YthmfljjpanghgaaDoorJ3
import Derived.Test.YthmfljjpanghgaaDoorJ4
namespace Go.Proofs.YthmfljjpanghgaaDoor.oa
open Go.RowKit Go.PlainAid
open Go.Proofs.YthmfljjpanghgaaDoor.pl Go.Proofs.YthmfljjpanghgaaDoor.pi Go.Proofs.YthmfljjpanghgaaDoor.pj Go.Proofs.YthmfljjpanghgaaDoor.ca Go.Proofs.YthmfljjpanghgaaDoor.cb Go.Proofs.YthmfljjpanghgaaDoor.cp Go.Proofs.YthmfljjpanghgaaDoor.ga Go.Proofs.YthmfljjpanghgaaDoor.gb Go.Proofs.YthmfljjpanghgaaDoor.aa Go.Proofs.YthmfljjpanghgaaDoor.ka Go.Proofs.YthmfljjpanghgaaDoor.kb Go.Proofs.YthmfljjpanghgaaDoor.kc Go.Proofs.YthmfljjpanghgaaDoor.kp Go.Proofs.YthmfljjpanghgaaDoor.lk Go.Proofs.YthmfljjpanghgaaDoor.qb Go.Proofs.YthmfljjpanghgaaDoor.qc Go.Proofs.YthmfljjpanghgaaDoor.qr Go.Proofs.YthmfljjpanghgaaDoor.ta Go.Proofs.YthmfljjpanghgaaDoor.tb Go.Proofs.YthmfljjpanghgaaDoor.tc Go.Proofs.YthmfljjpanghgaaDoor.ua
set_option linter.unusedVariables false

-- the shape of an older size's claim, and its hashes
def lkO (m a b : Nat) : Nat := if lkC m a b = 0 then 1 else lkC m a b
def nxO (m : Nat) (old : ByteArray) (x : List ByteArray) (a b : Nat) : ByteArray × List ByteArray := if a = 0 ∧ b = m then (old, x) else (x.headD ByteArray.empty, x.drop 1)
theorem lkC_in {m a b : Nat} (h1 : a < m) (h2 : m < b) : lkC m a b = if m ≤ a + half (b - a) then 2 else 3 := by
  unfold lkC
  rw [if_neg (by omega), if_neg (by omega)]
  by_cases h : m ≤ a + half (b - a)
  · rw [if_pos (by omega), if_pos h]
  · rw [if_neg (by omega), if_neg h]
theorem lkC_out {m a b : Nat} (h : ¬ (a < m ∧ m < b)) (h0 : ¬ (a = 0 ∧ b = m)) : lkC m a b = 1 := by
  unfold lkC
  rw [if_neg h0, if_pos (by omega)]
theorem lkO_in {m a b : Nat} (h1 : a < m) (h2 : m < b) : lkO m a b = if m ≤ a + half (b - a) then 2 else 3 := by
  unfold lkO
  rw [lkC_in h1 h2]
  by_cases h : m ≤ a + half (b - a)
  · rw [if_pos h, if_neg (by omega)]
  · rw [if_neg h, if_neg (by omega)]
theorem lkO_out {m a b : Nat} (h : ¬ (a < m ∧ m < b)) : lkO m a b = 1 := by
  unfold lkO
  by_cases h0 : a = 0 ∧ b = m
  · rw [if_pos (by unfold lkC; rw [if_pos h0])]
  · rw [lkC_out h h0, if_neg (by omega)]
theorem lkO_ne (m a b : Nat) : lkO m a b ≠ 1 ↔ a < m ∧ m < b := by
  by_cases h : a < m ∧ m < b
  · rw [lkO_in h.1 h.2]
    refine ⟨fun _ => h, fun _ => ?_⟩
    split <;> omega
  · rw [lkO_out h]
    exact ⟨fun e => absurd rfl e, fun e => absurd e h⟩
theorem dirO (m : Nat) {a b : Nat} (h1 : lkO m a b ≠ 1) (h2 : 2 ≤ b - a) : lkO m a b = 2 ↔ ¬ (true = true ∧ lkO m (a + half (b - a)) b ≠ 1) := by
  have h := (lkO_ne m a b).1 h1
  rw [lkO_in h.1 h.2, lkO_ne]
  by_cases g : m ≤ a + half (b - a)
  · rw [if_pos g]
    exact ⟨fun _ q => by omega, fun _ => rfl⟩
  · rw [if_neg g]
    exact ⟨fun q => by omega, fun q => absurd ⟨rfl, by omega, h.2⟩ q⟩
section
variable {lf : Nat → ByteArray} {m : Nat} {old : ByteArray} {wd : Int}
theorem gwO_state (H : ByteArray → ByteArray) (n : Nat) : ∀ (a b : Nat) (x : List ByteArray), b - a = n → a < b → (gw H (lkO m) lf (nxO m old) x a b).2 = x.drop (WL (lkC m) a b).length := by
  induction n using Nat.strongRecOn with
  | ind n ih =>
    intro a b x hn hab
    by_cases h : a < m ∧ m < b
    · have h2 : 2 ≤ b - a := by omega
      have hh := half_lt h2
      have e1 := lkO_in h.1 h.2
      have e2 := lkC_in h.1 h.2
      by_cases g : m ≤ a + half (b - a)
      · rw [if_pos g] at e1 e2
        rw [gw_left e1 h2, WL_left e2 h2]
        simp only
        rw [ih (half (b - a)) (by omega) a _ x (by omega) (by omega), ih (b - (a + half (b - a))) (by omega) _ _ _ rfl (by omega), List.drop_drop, List.length_append]
      · rw [if_neg g] at e1 e2
        rw [gw_right (by omega) (by omega) h2, WL_right (by omega) h2]
        simp only
        rw [ih (b - (a + half (b - a))) (by omega) _ _ x rfl (by omega), ih (half (b - a)) (by omega) a _ _ (by omega) (by omega), List.drop_drop, List.length_append]
    · rw [gw_bare (lkO_out h)]
      unfold nxO
      by_cases h0 : a = 0 ∧ b = m
      · rw [if_pos h0, WL_pass (by unfold lkC; rw [if_pos h0])]; rfl
      · rw [if_neg h0, WL_take (lkC_out h h0)]; rfl
theorem gwO_right (ho : old.size = wid wd) (n : Nat) : ∀ (a b : Nat) (x : List ByteArray), b - a = n → a < b → (WL (lkC m) a b).length ≤ x.length → Wide wd x → Right (HH wd) (wid wd) (gw (HH wd) (lkO m) lf (nxO m old) x a b).1 := by
  induction n using Nat.strongRecOn with
  | ind n ih =>
    intro a b x hn hab hl hw
    by_cases h : a < m ∧ m < b
    · have h2 : 2 ≤ b - a := by omega
      have hh := half_lt h2
      have e1 := lkO_in h.1 h.2
      have e2 := lkC_in h.1 h.2
      by_cases g : m ≤ a + half (b - a)
      · rw [if_pos g] at e1 e2
        rw [WL_left e2 h2, List.length_append] at hl
        rw [gw_left e1 h2, gwO_state _ _ _ _ _ rfl (by omega)]
        exact ⟨rfl, ih (half (b - a)) (by omega) _ _ _ (by omega) (by omega) (by omega) hw, ih (b - (a + half (b - a))) (by omega) _ _ _ rfl (by omega) (by rw [List.length_drop]; omega) (hw.drop _)⟩
      · rw [if_neg g] at e1 e2
        rw [WL_right (by omega) h2, List.length_append] at hl
        rw [gw_right (by omega) (by omega) h2, gwO_state _ _ _ _ _ rfl (by omega)]
        exact ⟨rfl, ih (half (b - a)) (by omega) _ _ _ (by omega) (by omega) (by rw [List.length_drop]; omega) (hw.drop _), ih (b - (a + half (b - a))) (by omega) _ _ _ rfl (by omega) (by omega) hw⟩
    · rw [gw_bare (lkO_out h)]
      unfold nxO
      by_cases h0 : a = 0 ∧ b = m
      · rw [if_pos h0]; exact ho
      · rw [if_neg h0]
        rw [WL_take (lkC_out h h0)] at hl
        exact hw.head hl
-- what grow reckons: the new root is the tree's sum
theorem go_bare {a b : Nat} (x : List ByteArray) (hab : a < b) (h : ¬ (a < m ∧ m < b)) : (go (WG wd m old) x a b).1.2 = (nxO m old x a b).1 ∧ (a < m → (go (WG wd m old) x a b).1.1 = (nxO m old x a b).1) := by
  unfold nxO
  by_cases h0 : a = 0 ∧ b = m
  · obtain ⟨rfl, rfl⟩ := h0
    rw [qx.go_whole, if_pos ⟨rfl, rfl⟩]
    exact ⟨rfl, fun _ => rfl⟩
  · rw [if_neg h0]
    by_cases g : a < m
    · rw [qx.go_old wd old x h0 (by omega) g]
      exact ⟨rfl, fun _ => rfl⟩
    · rw [qx.go_new wd old x h0 (by omega)]
      exact ⟨rfl, fun q => absurd q g⟩
theorem go_two {a b : Nat} (x : List ByteArray) (h : a < m ∧ m < b) (g : m ≤ a + half (b - a)) : (go (WG wd m old) x a b).1 = (WG wd m old).jn (go (WG wd m old) x a (a + half (b - a))).1 (go (WG wd m old) (x.drop (WL (lkC m) a (a + half (b - a))).length) (a + half (b - a)) b).1 := by
  have h2 : 2 ≤ b - a := by omega
  have hh := half_lt h2
  have e2 := lkC_in h.1 h.2
  rw [if_pos g] at e2
  have e : (WG wd m old).lk x a b = (2, x) := by show (lkC m a b, x) = _; rw [e2]
  rw [go_left (by rw [e]) h2, e]
  simp only
  rw [qu.go_stateG wd m old (half (b - a)) a (a + half (b - a)) x (by omega) (by omega)]
theorem go_three {a b : Nat} (x : List ByteArray) (h : a < m ∧ m < b) (g : ¬ m ≤ a + half (b - a)) : (go (WG wd m old) x a b).1 = (WG wd m old).jn (go (WG wd m old) (x.drop (WL (lkC m) (a + half (b - a)) b).length) a (a + half (b - a))).1 (go (WG wd m old) x (a + half (b - a)) b).1 := by
  have h2 : 2 ≤ b - a := by omega
  have hh := half_lt h2
  have e2 := lkC_in h.1 h.2
  rw [if_neg g] at e2
  have e : (WG wd m old).lk x a b = (3, x) := by show (lkC m a b, x) = _; rw [e2]
  rw [go_right (by rw [e]; exact Nat.le_refl _) h2, e]
  simp only
  rw [qu.go_stateG wd m old (b - (a + half (b - a))) (a + half (b - a)) b x rfl (by omega)]
theorem gwO_sum (n : Nat) : ∀ (a b : Nat) (x : List ByteArray), b - a = n → a < b → (gw (HH wd) (lkO m) lf (nxO m old) x a b).1.sum = (go (WG wd m old) x a b).1.2 := by
  induction n using Nat.strongRecOn with
  | ind n ih =>
    intro a b x hn hab
    by_cases h : a < m ∧ m < b
    · have h2 : 2 ≤ b - a := by omega
      have hh := half_lt h2
      have e1 := lkO_in h.1 h.2
      by_cases g : m ≤ a + half (b - a)
      · rw [if_pos g] at e1
        rw [gw_left e1 h2, gwO_state _ _ _ _ _ rfl (by omega), go_two x h g]
        show HH wd (tx1 _ _) = NF wd _ _
        rw [ih (half (b - a)) (by omega) _ _ _ (by omega) (by omega), ih (b - (a + half (b - a))) (by omega) _ _ _ rfl (by omega)]
        rfl
      · rw [if_neg g] at e1
        rw [gw_right (by omega) (by omega) h2, gwO_state _ _ _ _ _ rfl (by omega), go_three x h g]
        show HH wd (tx1 _ _) = NF wd _ _
        rw [ih (half (b - a)) (by omega) _ _ _ (by omega) (by omega), ih (b - (a + half (b - a))) (by omega) _ _ _ rfl (by omega)]
        rfl
    · rw [gw_bare (lkO_out h), (go_bare x hab h).1]
      rfl
end
theorem brs_len : ∀ (t u : Pt), ta.Alike t u → (brs t).length = (brs u).length
  | .bare _, .bare _, _ => rfl
  | .leaf _ _, .leaf _ _, _ => rfl
  | .node _ l r, .node _ l' r', h => by
    show (brs l ++ brs r).length = (brs l' ++ brs r').length
    rw [List.length_append, List.length_append, brs_len l l' h.1, brs_len r r' h.2]
  | .bare _, .leaf _ _, h => h.elim
  | .bare _, .node _ _ _, h => h.elim
  | .leaf _ _, .bare _, h => h.elim
  | .leaf _ _, .node _ _ _, h => h.elim
  | .node _ _ _, .bare _, h => h.elim
  | .node _ _ _, .leaf _ _, h => h.elim
-- all bare hashes are the list's: then the older root is
theorem gwO_old {wd : Int} {m : Nat} {old : ByteArray} {lf lf' : Nat → ByteArray} (xs : List ByteArray) (n : Nat) : ∀ (a b : Nat) (x : List ByteArray), b - a = n → a < m → m ≤ b → b ≤ xs.length →
    brs (gw (HH wd) (lkO m) lf (nxO m old) x a b).1 = brs (gw (HH wd) (lkO m) lf' (ow (RR wd xs)) () a b).1 → (go (WG wd m old) x a b).1.1 = RR wd xs a m := by
  induction n using Nat.strongRecOn with
  | ind n ih =>
    intro a b x hn ha hmb hb hq
    by_cases h : a < m ∧ m < b
    · have h2 : 2 ≤ b - a := by omega
      have hh := half_lt h2
      have e1 := lkO_in h.1 h.2
      by_cases g : m ≤ a + half (b - a)
      · rw [if_pos g] at e1
        rw [gw_left e1 h2, gw_left e1 h2] at hq
        have hq' : brs _ ++ brs _ = brs _ ++ brs _ := hq
        obtain ⟨q1, q2⟩ := List.append_inj hq' (brs_len _ _ (gw_alike _ _ _ _ _ _ _ _ _ _ _ rfl))
        have i1 := ih (half (b - a)) (by omega) a (a + half (b - a)) x (by omega) ha g (by omega) q1
        rw [go_two x h g]
        have h0r : ¬ (a + half (b - a) = 0 ∧ b = m) := fun q => by omega
        rw [qx.go_new wd old _ h0r g]
        show (if (⟨#[]⟩ : ByteArray) = ⟨#[]⟩ then (go (WG wd m old) x a (a + half (b - a))).1.1 else NF wd (go (WG wd m old) x a (a + half (b - a))).1.1 ⟨#[]⟩) = _
        rw [if_pos rfl]
        exact i1
      · rw [if_neg g] at e1
        rw [gw_right (by omega) (by omega) h2, gw_right (by omega) (by omega) h2] at hq
        have hq' : brs _ ++ brs _ = brs _ ++ brs _ := hq
        obtain ⟨q1, q2⟩ := List.append_inj hq' (brs_len _ _ (gw_alike _ _ _ _ _ _ _ _ _ _ _ rfl))
        have i2 := ih (b - (a + half (b - a))) (by omega) (a + half (b - a)) b x rfl (by omega) hmb hb q2
        rw [gwO_state _ _ _ _ _ rfl (by omega)] at q1
        have hnl : ¬ (a < m ∧ m < a + half (b - a)) := fun q => by omega
        rw [gw_bare (lkO_out hnl), gw_bare (lkO_out hnl)] at q1
        have q3 : (nxO m old (x.drop (WL (lkC m) (a + half (b - a)) b).length) a (a + half (b - a))).1 = RR wd xs a (a + half (b - a)) := by
          have : [_] = [_] := q1
          injection this
        rw [go_three x h g]
        show (if (go (WG wd m old) x (a + half (b - a)) b).1.1 = ⟨#[]⟩ then _ else NF wd (go (WG wd m old) (x.drop (WL (lkC m) (a + half (b - a)) b).length) a (a + half (b - a))).1.1 (go (WG wd m old) x (a + half (b - a)) b).1.1) = _
        rw [i2, (go_bare _ (by omega) hnl).2 ha, q3, if_neg]
        · exact (zg.R_mid wd h2 (by omega) hmb hb).symm
        · intro he
          have h1 : (RR wd xs (a + half (b - a)) m).size = wid wd := RT_size wd _
          rw [he] at h1
          have h3 := pi.wid_pos wd
          have h4 : (⟨#[]⟩ : ByteArray).size = 0 := rfl
          omega
    · obtain rfl : m = b := by omega
      rw [gw_bare (lkO_out h), gw_bare (lkO_out h)] at hq
      have q3 : (nxO m old x a m).1 = RR wd xs a m := by
        have : [_] = [_] := hq
        injection this
      rw [(go_bare x (by omega) h).2 ha, q3]
-- what is accepted
theorem conA_ok {wd m n : Int} {old root : ByteArray} {proof : List ByteArray} (h : qw.conA wd m n old root proof = 0) : ∃ M N : Nat, m = M ∧ n = N ∧ M ≤ N ∧ N ≤ 4611686018427387904 ∧ (M ≠ 0 → proof.length = (WL (lkC M) 0 N).length) ∧ Wide wd proof ∧ old.size = wid wd ∧ root.size = wid wd ∧ (M = 0 → EF wd = old) ∧ (M ≠ 0 → qv.gw2 wd M N old proof = (old, root)) := by
  unfold qw.conA at h
  by_cases q : qw.conR wd m n proof [old, root] = 0
  · rw [if_pos q] at h
    obtain ⟨M, N, rfl, rfl, q1, q2, q3, q4, q5, q6⟩ := qw.conR_ok q
    refine ⟨M, N, rfl, rfl, q1, q2, fun h0 => by rw [q3, if_neg h0], q4, q5 old (by simp), q5 root (by simp), fun h0 => ?_, fun h0 => ?_⟩
    · rw [if_pos (by omega)] at h
      unfold qv.begA at h
      by_cases k1 : (N : Int) = 0 ∧ root ≠ old
      · rw [if_pos k1] at h; omega
      · rw [if_neg k1] at h
        by_cases k2 : EF wd = old
        · exact k2
        · rw [if_neg k2] at h; omega
    · rw [if_neg (by omega), Int.toNat_natCast, Int.toNat_natCast] at h
      by_cases k2 : qv.gw2 wd M N old proof = (old, root)
      · exact k2
      · rw [if_neg k2] at h; omega
  · rw [if_neg q] at h; exact absurd h q
def oldT (wd : Int) (M : Nat) (xs : List ByteArray) (old : ByteArray) (proof : List ByteArray) : Option (ByteArray × ByteArray) := fst1 (gw (HH wd) (lkO M) (fun _ => ByteArray.empty) (nxO M old) proof 0 xs.length).1 (ownT wd (lkO M) xs)
theorem old_inner {wd m : Int} {xs : List ByteArray} {old : ByteArray} {proof : List ByteArray} (h : qw.conA wd m xs.length old (RT wd xs) proof = 0) (hne : RT wd (xs.take m.toNat) ≠ old) : ∃ M : Nat, m = M ∧ 1 ≤ M ∧ M < xs.length := by
  obtain ⟨M, N, rfl, hN, h1, h2, h3, h4, h5, h6, h7, h8⟩ := conA_ok h
  obtain rfl : xs.length = N := by omega
  rw [Int.toNat_natCast] at hne
  refine ⟨M, rfl, ?_, ?_⟩
  · by_cases e : M = 0
    · subst e
      rw [List.take_zero, RT_nil] at hne
      exact absurd (h7 rfl) hne
    · omega
  · by_cases e : M = xs.length
    · rw [e, List.take_length] at hne
      by_cases e0 : M = 0
      · rw [e0] at e
        have : xs = [] := List.length_eq_zero_iff.1 e.symm
        subst this
        rw [RT_nil] at hne
        exact absurd (h7 e0) hne
      · have g := h8 e0
        unfold qv.gw2 at g
        rw [← e, qx.go_whole] at g
        have : (old, old) = (old, RT wd xs) := g
        injection this with _ e2
        exact absurd e2.symm hne
    · omega
theorem old_sound {wd m : Int} {xs : List ByteArray} {old : ByteArray} {proof : List ByteArray} (h : qw.conA wd m xs.length old (RT wd xs) proof = 0) (hne : RT wd (xs.take m.toNat) ≠ old) : ∃ A B, oldT wd m.toNat xs old proof = some (A, B) ∧ A ≠ B ∧ cutS A wd = cutS B wd := by
  obtain ⟨M, rfl, m1, m2⟩ := old_inner h hne
  obtain ⟨M', N, hM, hN, h1, h2, h3, h4, h5, h6, h7, h8⟩ := conA_ok h
  obtain rfl : M = M' := by omega
  obtain rfl : xs.length = N := by omega
  rw [Int.toNat_natCast] at hne ⊢
  have g := h8 (by omega)
  unfold qv.gw2 at g
  have s1 := gwO_sum (wd := wd) (m := M) (old := old) (lf := fun _ => ByteArray.empty) xs.length 0 xs.length proof rfl (by omega)
  rw [g] at s1
  have s2 := own_sum wd (lkO M) xs 0 xs.length (by omega) (Nat.le_refl _)
  have e : RR wd xs 0 xs.length = RT wd xs := by unfold RR; rw [slc_all]
  unfold oldT
  rcases fst_sound (H := HH wd) (k := wid wd) (HH_size wd) (gw (HH wd) (lkO M) (fun _ => ByteArray.empty) (nxO M old) proof 0 xs.length).1 (ownT wd (lkO M) xs) (gw_alike _ _ _ _ _ _ _ 0 xs.length proof () rfl) (gwO_right h5 xs.length 0 xs.length proof rfl (by omega) (by rw [h3 (by omega)]; exact Nat.le_refl _) h4) (own_right wd (lkO M) xs 0 xs.length) (by rw [s1]; unfold ownT; rw [s2, e]) with q | ⟨_, _, q⟩
  · exact q
  · exfalso
    have o := gwO_old (wd := wd) (m := M) (old := old) xs xs.length 0 xs.length proof rfl (by omega) (by omega) (Nat.le_refl _) q
    rw [g] at o
    have o2 : old = RR wd xs 0 M := o
    apply hne
    rw [o2]
    unfold RR slc
    simp
end Go.Proofs.YthmfljjpanghgaaDoor.oa

namespace Go.Proofs.YthmfljjpanghgaaDoor.ob
open Go.RowKit Go.PlainAid
open Go.Proofs.YthmfljjpanghgaaDoor.pl Go.Proofs.YthmfljjpanghgaaDoor.pi Go.Proofs.YthmfljjpanghgaaDoor.pj Go.Proofs.YthmfljjpanghgaaDoor.ca Go.Proofs.YthmfljjpanghgaaDoor.cb Go.Proofs.YthmfljjpanghgaaDoor.cp Go.Proofs.YthmfljjpanghgaaDoor.ga Go.Proofs.YthmfljjpanghgaaDoor.gb Go.Proofs.YthmfljjpanghgaaDoor.aa Go.Proofs.YthmfljjpanghgaaDoor.ba Go.Proofs.YthmfljjpanghgaaDoor.bb Go.Proofs.YthmfljjpanghgaaDoor.ka Go.Proofs.YthmfljjpanghgaaDoor.kb Go.Proofs.YthmfljjpanghgaaDoor.kc Go.Proofs.YthmfljjpanghgaaDoor.kp Go.Proofs.YthmfljjpanghgaaDoor.lk Go.Proofs.YthmfljjpanghgaaDoor.qa Go.Proofs.YthmfljjpanghgaaDoor.qb Go.Proofs.YthmfljjpanghgaaDoor.qc Go.Proofs.YthmfljjpanghgaaDoor.ta Go.Proofs.YthmfljjpanghgaaDoor.tb Go.Proofs.YthmfljjpanghgaaDoor.tc Go.Proofs.YthmfljjpanghgaaDoor.ua Go.Proofs.YthmfljjpanghgaaDoor.ui Go.Proofs.YthmfljjpanghgaaDoor.uk Go.Proofs.YthmfljjpanghgaaDoor.un Go.Proofs.YthmfljjpanghgaaDoor.uq Go.Proofs.YthmfljjpanghgaaDoor.oa
set_option linter.unusedVariables false

-- the state of a claim with an older root
structure OS (base pb mb ob M : Nat) (old : ByteArray) (x : List ByteArray) (w : World) : Prop where
  p : KPile base pb x w
  m : w.cell? ⟨mb, 0, none⟩ = some (.int .i64 M)
  o : w.cell? ⟨ob, 0, none⟩ = some (.string old)
  t : Tab w
theorem old1 (mb M a b : Nat) (w : World) (h : w.cell? ⟨mb, 0, none⟩ = some (.int .i64 M)) : Calls Tryd.prog 62 #[.agg #[.int .i64 a, .int .i64 b], .pointer (some ⟨mb, 0, none⟩)] w fun e w' => e = .returned (.bool (decide (lkO M a b ≠ 1))) ∧ Below w.heap.size w w' := by
  have e : decide (lkO M a b ≠ 1) = (decide (a < M) && decide (M < b)) := by
    by_cases q : lkO M a b ≠ 1
    · have := (lkO_ne M a b).1 q
      rw [decide_eq_true q, decide_eq_true this.1, decide_eq_true this.2]; rfl
    · rw [decide_eq_false q]
      by_cases q1 : a < M
      · rw [decide_eq_true q1, decide_eq_false (fun q2 => q ((lkO_ne M a b).2 ⟨q1, q2⟩))]; rfl
      · rw [decide_eq_false q1]; rfl
  rw [e]
  obtain ⟨W, HW⟩ : ∃ W, Hid (W = w.alloc (.cells #[.int .i64 a, .int .i64 b] 102)) := ⟨_, rfl⟩
  have hw : w.alloc (.cells #[.int .i64 a, .int .i64 b] 102) = W := HW.out.symm
  have BW : Hid (Below w.heap.size w W) := by rw [HW.out]; exact (Below.refl _ _).alloc (Nat.le_refl _) _
  have s0 : W.cell? ⟨w.heap.size, 0, none⟩ = some (.int .i64 a) := by rw [HW.out, World.cell?_alloc_at _ _ _ _ rfl]; rfl
  have s1 : W.cell? ⟨w.heap.size, 1, none⟩ = some (.int .i64 b) := by rw [HW.out, World.cell?_alloc_at _ _ _ _ rfl]; rfl
  have h' := (BW.out.cell (World.block_lt_of_cell? _ _ h)).trans h
  clear h e
  by_cases h1 : a < M
  · have d1 : decide (a < M) = true := decide_eq_true h1
    by_cases h2 : M < b
    · have d2 : decide (M < b) = true := decide_eq_true h2
      rw [d1, d2]
      clear h1 h2
      go_enter Tryd.func62, Tryd.ntmps62
      go_wp2_with (rw [hw])
      go_ret
      exact ⟨rfl, BW.out⟩
    · have d2 : decide (M < b) = false := decide_eq_false h2
      rw [d1, d2]
      clear h1 h2
      go_enter Tryd.func62, Tryd.ntmps62
      go_wp2_with (rw [hw])
      go_ret
      exact ⟨rfl, BW.out⟩
  · have d1 : decide (a < M) = false := decide_eq_false h1
    rw [d1]
    clear h1
    go_enter Tryd.func62, Tryd.ntmps62
    go_wp2_with (rw [hw])
    go_ret
    exact ⟨rfl, BW.out⟩
theorem eqS (a b M : Nat) (w : World) (c : Bool) (h : decide (a = 0 ∧ b = M) = c) : (binOp .eql 102 (.agg #[.int .i64 a, .int .i64 b]) (.agg #[.int .i64 0, .int .i64 M])).run Tryd.prog w = .ok (.bool c) w := by
  subst h
  by_cases h1 : a = 0 <;> by_cases h2 : b = M <;> simp [go_sem, h1, h2] <;> omega
theorem old2 (base pb mb ob M a b : Nat) (old : ByteArray) (x : List ByteArray) (w : World) (h : OS base pb mb ob M old x w) (hB : 2 ≤ base) (hm : mb ≠ pb) (ho : ob ≠ pb) (hx : ¬ (a = 0 ∧ b = M) → 1 ≤ x.length) :
    Calls Tryd.prog 63 #[.agg #[.int .i64 a, .int .i64 b], .pointer (some ⟨mb, 0, none⟩), .pointer (some ⟨ob, 0, none⟩), .pointer (some ⟨pb, 0, none⟩)] w fun e w' => e = .returned (.string (nxO M old x a b).1) ∧ OS base pb mb ob M old (nxO M old x a b).2 w' ∧ Kp (fun b => b = pb) w w' := by
  obtain ⟨W, HW⟩ : ∃ W, Hid (W = w.alloc (.cells #[.int .i64 a, .int .i64 b] 102)) := ⟨_, rfl⟩
  have hw : w.alloc (.cells #[.int .i64 a, .int .i64 b] 102) = W := HW.out.symm
  have BW : Hid (Below w.heap.size w W) := by rw [HW.out]; exact (Below.refl _ _).alloc (Nat.le_refl _) _
  have s0 : W.cell? ⟨w.heap.size, 0, none⟩ = some (.int .i64 a) := by rw [HW.out, World.cell?_alloc_at _ _ _ _ rfl]; rfl
  have s1 : W.cell? ⟨w.heap.size, 1, none⟩ = some (.int .i64 b) := by rw [HW.out, World.cell?_alloc_at _ _ _ _ rfl]; rfl
  have hS : OS base pb mb ob M old x W := ⟨h.p.keep (Kp.of_below (A := no) BW.out) (fun _ e => e.elim) (fun e => e), (BW.out.cell (World.block_lt_of_cell? _ _ h.m)).trans h.m, (BW.out.cell (World.block_lt_of_cell? _ _ h.o)).trans h.o, h.t.down BW.out⟩
  have HS : Hid (OS base pb mb ob M old x W) := hS
  have c1 := hS.m
  have c2 := hS.o
  by_cases h0 : a = 0 ∧ b = M
  · have e : nxO M old x a b = (old, x) := by unfold nxO; rw [if_pos h0]
    have qe := fun w => eqS a b M w true (decide_eq_true h0)
    rw [e]
    clear h hx e hS h0
    go_enter Tryd.func63, Tryd.ntmps63
    go_wp2_with (rw [hw])
    go_ret
    exact ⟨rfl, HS.out, Kp.of_below BW.out⟩
  · have hx1 := hx h0
    have e : nxO M old x a b = (x.headD ByteArray.empty, x.drop 1) := by unfold nxO; rw [if_neg h0]
    have qe := fun w => eqS a b M w false (decide_eq_false h0)
    rw [e]
    cases x with
    | nil => simp at hx1
    | cons y t =>
      have NC : Hid (Calls _ _ _ _ _) := knext base pb y t a b W hS.p
      clear h hx hx1 e hS h0
      go_enter Tryd.func63, Tryd.ntmps63
      go_wp2_with (rw [hw])
      refine NC.out.mono ?_
      rintro e w2 ⟨rfl, q1, q2⟩
      have Q : Hid (KPile base pb t w2 ∧ Kp (fun b => b = pb) W w2) := ⟨q1, q2⟩
      clear q1 q2
      go_wp2
      go_ret
      refine ⟨rfl, ⟨Q.out.1, Q.out.2.cell HS.out.m hm, Q.out.2.cell HS.out.o ho, ?_⟩, (Kp.of_below BW.out).trans Q.out.2⟩
      exact HS.out.t.below (Q.out.2.below (fun k e => by subst e; exact HS.out.p.new) (Nat.le_trans HS.out.p.new (Nat.le_of_lt HS.out.p.lt))) hB
def PO (wd : Int) (M N : Nat) (x : List ByteArray) (a b : Nat) : Prop := (WL (lkC M) a b).length ≤ x.length ∧ Wide wd x ∧ b ≤ N
theorem oldFl {base pb mb ob M N : Nat} {wd : Int} {old : ByteArray} (hN : N ≤ 4611686018427387904) (hB : 2 ≤ base) (hm : mb ≠ pb) (ho : ob ≠ pb) (hs : old.size = wid wd) :
    Fl (fun b => b = pb) (OS base pb mb ob M old) wd (lkO M) true (fun _ => ByteArray.empty) (nxO M old) (PO wd M N) 62 63 .nilFunc #[] #[.pointer (some ⟨mb, 0, none⟩)] #[] #[.pointer (some ⟨mb, 0, none⟩), .pointer (some ⟨ob, 0, none⟩), .pointer (some ⟨pb, 0, none⟩)] where
  kent := fun args w => by simp [go_sem]
  hent := fun args w => by simp [go_sem]
  later := fun h hb => ⟨h.p.keep (Kp.of_below (A := no) hb) (fun _ e => e.elim) (fun e => e), (hb.cell (World.block_lt_of_cell? _ _ h.m)).trans h.m, (hb.cell (World.block_lt_of_cell? _ _ h.o)).trans h.o, h.t.down hb⟩
  fl := fun h b e => by subst e; exact h.p.lt
  tab := fun h => h.t
  bnd := fun h => Nat.le_trans h.2.2 hN
  knows := fun x a b a' b' w _ _ _ _ hS => old1 mb M a b w hS.m
  leaf := fun x a b h1 _ h2 => by have := (lkO_ne M a b).1 h2; omega
  lsz := fun {x a b} h1 _ h2 => by have := (lkO_ne M a b).1 h2; omega
  hash := fun x a b w hab hP h1 hS => old2 base pb mb ob M a b old x w hS hB hm ho fun h0 => by
    have hk : lkC M a b = 1 := lkC_out (fun q => (lkO_ne M a b).2 q h1) h0
    have := hP.1
    rw [WL_take hk] at this
    exact this
  hsz := fun {x a b} hP h1 => by
    unfold nxO
    by_cases h0 : a = 0 ∧ b = M
    · rw [if_pos h0]
      show old.size ≤ 32
      rw [hs]
      exact qb.wid_le wd
    · rw [if_neg h0]
      have hk : lkC M a b = 1 := lkC_out (fun q => (lkO_ne M a b).2 q h1) h0
      have p1 := hP.1
      rw [WL_take hk] at p1
      have : (x.headD ByteArray.empty).size = wid wd := hP.2.1.head p1
      show (x.headD ByteArray.empty).size ≤ 32
      rw [this]
      exact qb.wid_le wd
  dir := fun _ _ h1 h2 => dirO M h1 h2
  left := fun {x a b} hab hP h3 h2 => by
    have hh := half_lt h2
    have hin := (lkO_ne M a b).1 (by omega)
    have e1 := lkO_in hin.1 hin.2
    have e2 := lkC_in hin.1 hin.2
    obtain ⟨p1, p2, p3⟩ := hP
    rw [← e1, h3] at e2
    rw [WL_left e2 h2, List.length_append] at p1
    rw [gwO_state _ _ _ _ _ rfl (by omega)]
    exact ⟨⟨by omega, p2, by omega⟩, ⟨by rw [List.length_drop]; omega, p2.drop _, p3⟩⟩
  right := fun {x a b} hab hP h1 h3 h2 => by
    have hh := half_lt h2
    have hin := (lkO_ne M a b).1 h1
    have e1 := lkO_in hin.1 hin.2
    have e2 := lkC_in hin.1 hin.2
    obtain ⟨p1, p2, p3⟩ := hP
    have e3 : lkC M a b = 3 := by
      rw [e2]
      by_cases g : M ≤ a + half (b - a)
      · rw [if_pos g] at e1; exact absurd e1 h3
      · rw [if_neg g]
    rw [WL_right (by omega) h2, List.length_append] at p1
    rw [gwO_state _ _ _ _ _ rfl (by omega)]
    exact ⟨⟨by omega, p2, p3⟩, ⟨by rw [List.length_drop]; omega, p2.drop _, by omega⟩⟩
end Go.Proofs.YthmfljjpanghgaaDoor.ob

namespace Go.Proofs.YthmfljjpanghgaaDoor.oc
open Go.RowKit Go.PlainAid
open Go.Proofs.YthmfljjpanghgaaDoor.pl Go.Proofs.YthmfljjpanghgaaDoor.pi Go.Proofs.YthmfljjpanghgaaDoor.pj Go.Proofs.YthmfljjpanghgaaDoor.ca Go.Proofs.YthmfljjpanghgaaDoor.cb Go.Proofs.YthmfljjpanghgaaDoor.cp Go.Proofs.YthmfljjpanghgaaDoor.ga Go.Proofs.YthmfljjpanghgaaDoor.gb Go.Proofs.YthmfljjpanghgaaDoor.aa Go.Proofs.YthmfljjpanghgaaDoor.ba Go.Proofs.YthmfljjpanghgaaDoor.bb Go.Proofs.YthmfljjpanghgaaDoor.ka Go.Proofs.YthmfljjpanghgaaDoor.kb Go.Proofs.YthmfljjpanghgaaDoor.kc Go.Proofs.YthmfljjpanghgaaDoor.kp Go.Proofs.YthmfljjpanghgaaDoor.lk Go.Proofs.YthmfljjpanghgaaDoor.qa Go.Proofs.YthmfljjpanghgaaDoor.qb Go.Proofs.YthmfljjpanghgaaDoor.qc Go.Proofs.YthmfljjpanghgaaDoor.ta Go.Proofs.YthmfljjpanghgaaDoor.tb Go.Proofs.YthmfljjpanghgaaDoor.tc Go.Proofs.YthmfljjpanghgaaDoor.ua Go.Proofs.YthmfljjpanghgaaDoor.ui Go.Proofs.YthmfljjpanghgaaDoor.uk Go.Proofs.YthmfljjpanghgaaDoor.ul Go.Proofs.YthmfljjpanghgaaDoor.un Go.Proofs.YthmfljjpanghgaaDoor.uq Go.Proofs.YthmfljjpanghgaaDoor.oa Go.Proofs.YthmfljjpanghgaaDoor.ob
set_option linter.unusedVariables false

theorem box113 (w : World) (x y y0 y1 y2 : Value) (t t' t'' : TypeId) : ∀ W, W = ((w.alloc (.cells #[x] t)).alloc (.cells #[y] t')).alloc (.cells #[y0, y1, y2] t'') → Below w.heap.size w W ∧ W.cell? ⟨w.heap.size, 0, none⟩ = some x ∧ W.cell? ⟨w.heap.size + 1, 0, none⟩ = some y ∧ W.heap[w.heap.size + 1 + 1]? = some (.cells #[y0, y1, y2] t'' (0, 0)) := by
  intro W hW
  obtain ⟨A, hA⟩ : ∃ A, A = w.alloc (.cells #[x] t) := ⟨_, rfl⟩
  obtain ⟨D, hD⟩ : ∃ D, D = A.alloc (.cells #[y] t') := ⟨_, rfl⟩
  rw [← hA, ← hD] at hW
  have s1 : A.heap.size = w.heap.size + 1 := by rw [hA]; simp
  have s2 : D.heap.size = w.heap.size + 1 + 1 := by rw [hD]; simp [s1]
  have b1 : Below w.heap.size w A := by rw [hA]; exact (Below.refl _ _).alloc (Nat.le_refl _) _
  have b2 : Below A.heap.size A D := by rw [hD]; exact (Below.refl _ _).alloc (Nat.le_refl _) _
  have b3 : Below D.heap.size D W := by rw [hW]; exact (Below.refl _ _).alloc (Nat.le_refl _) _
  refine ⟨over b1 (over b2 b3), ?_, ?_, ?_⟩
  · refine ((over b2 b3).cell (p := ⟨w.heap.size, 0, none⟩) (by show w.heap.size < _; rw [s1]; omega)).trans ?_
    rw [hA, World.cell?_alloc_at _ _ _ _ rfl]; rfl
  · refine (b3.cell (p := ⟨w.heap.size + 1, 0, none⟩) (by show w.heap.size + 1 < _; rw [s2]; omega)).trans ?_
    rw [← s1, hD, World.cell?_alloc_at _ _ _ _ rfl]; rfl
  · rw [← s2, hW]; exact heap_alloc_new D _
-- what is answered
def oldX (wd m : Int) (xs : List ByteArray) (old : ByteArray) (proof : List ByteArray) : Option (ByteArray × ByteArray) :=
  if qw.conA wd m xs.length old (RT wd xs) proof = 0 then (if RT wd (xs.take m.toNat) = old then none else oldT wd m.toNat xs old proof) else none
set_option maxRecDepth 100000 in
set_option maxHeartbeats 12800000 in
theorem kOldC (wd m : Int) (hwd : i64 wd) (vl : Value) (xs : List ByteArray) (old : ByteArray) (vp : Value) (proof : List ByteArray) (w : World) (hl : ReadsT w vl xs) (hno : ∀ k c, vl = .slice none k c → c = 0) (hp : ReadsT w vp proof) (hx : Fits xs) (zp : proof.length ≤ 140737488355328) (hT : Tab w) :
    Calls Tryd.prog 30 #[.int .i64 wd, vl, .int .i64 m, .string old, vp] w fun e w' => e = .returned (clV (oldX wd m xs old proof)) ∧ Below w.heap.size w w' := by
  have OL : Hid (Old w.heap.size w vl xs ∧ Old w.heap.size w vp proof ∧ Tab w ∧ Fits xs) := ⟨Old.of hl, Old.of hp, hT, hx⟩
  have RD : Hid (ReadsT w vl xs ∧ ReadsT w vp proof) := ⟨hl, hp⟩
  have RC : Hid (∀ w', Tab w' → ReadsT w' vl xs → Calls _ _ _ _ _) := fun w' h1 h2 => mb.rootC wd _ xs w' hwd h1 h2 hx
  have IC : Hid (∀ w', Tab w' → ReadsT w' vp proof → Calls _ _ _ _ _) := fun w' h1 h2 => qw.consC wd m xs.length hwd old (RT wd xs) vp proof w' h2 zp h1
  have hxm := hx.many
  obtain ⟨la, lc, rfl, hlc, hlh⟩ := hl
  obtain ⟨pa, pc, rfl, _⟩ := hp
  have RM : Hid (∀ k, k ≤ xs.length → ∀ w', Tab w' → ReadsT w' (.slice la xs.length lc) xs → Calls Tryd.prog 12 #[.int .i64 wd, .slice la k lc] w' fun e w'' => e = .returned (.string (RT wd (xs.take k))) ∧ Below w'.heap.size w' w'') := fun k hk w' h1 h2 => mb.rootC wd _ (xs.take k) w' hwd h1 (zk.preT h2 hk) (hx.take k)
  unfold oldX
  obtain ⟨E, HE⟩ : ∃ E, Hid (qw.conA wd m xs.length old (RT wd xs) proof = E) := ⟨_, rfl⟩
  obtain ⟨y2, HY2⟩ : ∃ y, Hid (RT wd xs = y) := ⟨_, rfl⟩
  rw [HE.out] at IC ⊢
  rw [HY2.out] at RC IC
  obtain ⟨n, HN⟩ : ∃ n, Hid (xs.length = n) := ⟨_, rfl⟩
  obtain ⟨k, HM⟩ : ∃ n, Hid (proof.length = n) := ⟨_, rfl⟩
  rw [HN.out] at RC IC RM RD OL hlc hlh hxm ⊢
  rw [HM.out] at IC RD OL ⊢
  obtain ⟨W, HW⟩ : ∃ W, Hid (W = ((w.alloc (.cells #[.int .i64 m] 3)).alloc (.cells #[.string old] 9)).alloc (.cells #[.string ⟨#[]⟩, .string ⟨#[]⟩, .bool false] 54)) := ⟨_, rfl⟩
  have hw : ((w.alloc (.cells #[.int .i64 m] 3)).alloc (.cells #[.string old] 9)).alloc (.cells #[.string ⟨#[]⟩, .string ⟨#[]⟩, .bool false] 54) = W := HW.out.symm
  obtain ⟨bw, x7, x8, x10⟩ := box113 w (.int .i64 m) (.string old) (.string ⟨#[]⟩) (.string ⟨#[]⟩) (.bool false) 3 9 54 W HW.out
  have BW : Hid (Below w.heap.size w W) := bw
  have HX : Hid (W.cell? ⟨w.heap.size, 0, none⟩ = some (.int .i64 m) ∧ W.cell? ⟨w.heap.size + 1, 0, none⟩ = some (.string old)) := ⟨x7, x8⟩
  have HR : Hid (W.heap[w.heap.size + 1 + 1]? = some (.cells #[.string ⟨#[]⟩, .string ⟨#[]⟩, .bool false] 54 (0, 0))) := x10
  have F4 : Hid (∀ w4, Below W.heap.size W w4 → w4.heap[w.heap.size + 1 + 1]? = some (.cells #[.string ⟨#[]⟩, .string ⟨#[]⟩, .bool false] 54 (0, 0))) := fun w4 k => (k.block _ (Array.getElem?_eq_some_iff.1 HR.out).1).trans HR.out
  have SX : Hid (∀ w', Below W.heap.size W w' → Below W.heap.size W w' ∧ w'.cell? ⟨w.heap.size, 0, none⟩ = some (.int .i64 m) ∧ w'.cell? ⟨w.heap.size + 1, 0, none⟩ = some (.string old)) := fun w' b => ⟨b, (b.cell (World.block_lt_of_cell? _ _ HX.out.1)).trans HX.out.1, (b.cell (World.block_lt_of_cell? _ _ HX.out.2)).trans HX.out.2⟩
  have HB0 : Hid (Below W.heap.size W W.drew) := below_dr (Below.refl _ _)
  have HB1 : Hid (∀ w1, Below W.drew.heap.size W.drew w1 → Below W.heap.size W w1) := fun w1 b => over HB0.out b
  have GD : Hid (∀ w', Below W.heap.size W w' → Tab w' ∧ ReadsT w' (.slice la n lc) xs ∧ ReadsT w' (.slice pa k pc) proof) := fun w' b => ⟨OL.out.2.2.1.down (over BW.out b), RD.out.1.later (over BW.out b), RD.out.2.later (over BW.out b)⟩
  clear hT hx zp x7 x8 x10 bw
  by_cases h : E = 0
  · subst h
    rw [if_pos rfl]
    have hcon := HE.out
    cases la with
    | none =>
      obtain rfl : lc = 0 := hno _ _ rfl
      have hn0 : n = 0 := by omega
      have hxs : xs = [] := List.length_eq_zero_iff.1 (HN.out.trans hn0)
      obtain ⟨hm0, hE0⟩ : m = 0 ∧ EF wd = old := by
        obtain ⟨M, N, e, hN, i1, i2, i3, i4, i5, i6, i7, i8⟩ := conA_ok hcon
        have h1 := HN.out
        have h2 : M = 0 := by omega
        exact ⟨by omega, i7 h2⟩
      subst hm0
      have RN : Hid (∀ w', Tab w' → ReadsT w' (.slice none n 0) xs → Calls _ _ _ _ _) := RM.out 0 (Nat.zero_le _)
      have ho : RT wd (xs.take (0 : Int).toNat) = old := by rw [hxs, List.take_nil, RT_nil]; exact hE0
      have ho2 : RT wd (xs.take 0) = old := ho
      rw [if_pos ho]
      rw [ho2] at RN
      have qo : (old.toList == old.toList) = true := beq_self_eq_true _
      clear hlh hcon hn0 hxs hE0 ho ho2 hlc
      go_enter Tryd.func30, Tryd.ntmps30
      go_wp2_with fail
      try rw [hw]
      go_region_held3 (fun w' => Below W.heap.size W w' ∧ w'.cell? ⟨w.heap.size, 0, none⟩ = some (.int .i64 0) ∧ w'.cell? ⟨w.heap.size + 1, 0, none⟩ = some (.string old)) (first | exact SX.out _ HB0.out | exact SX.out _ B1.out | exact SX.out _ B2.out) (first | (go_at_call 12; refine (RC.out _ (GD.out _ HB0.out).1 (GD.out _ HB0.out).2.1).mono ?_; rintro e w1 ⟨rfl, hb1⟩; have B1 : Hid (Below W.heap.size W w1) := HB1.out w1 hb1; clear hb1) | (go_at_call 18; refine (IC.out _ (GD.out _ B1.out).1 (GD.out _ B1.out).2.2).mono ?_; rintro e w2 ⟨rfl, hb2⟩; have B2 : Hid (Below W.heap.size W w2) := over B1.out hb2; clear hb2))
      obtain ⟨b2, c7, c8⟩ := SX.out w2 B2.out
      clear b2
      go_wp2_with fail
      have HB2 : Hid (Below W.heap.size W w2.drew) := below_dr B2.out
      go_region_held3 (fun w' => Below W.heap.size W w' ∧ w'.cell? ⟨w.heap.size, 0, none⟩ = some (.int .i64 0) ∧ w'.cell? ⟨w.heap.size + 1, 0, none⟩ = some (.string old)) (first | exact SX.out _ HB2.out | exact SX.out _ B4.out) ((go_at_call 12; refine (RN.out _ (GD.out _ HB2.out).1 (GD.out _ HB2.out).2.1).mono ?_; rintro e w4 ⟨rfl, hb4⟩; have B4 : Hid (Below W.heap.size W w4) := over HB2.out hb4; clear hb4))
      clear c7 c8
      have hr2 := F4.out w4 B4.out
      have e0 : w4.cell? ⟨w.heap.size + 1 + 1, 0, none⟩ = _ := cell_of_row _ _ 0 _ _ _ hr2
      have e1 : w4.cell? ⟨w.heap.size + 1 + 1, 1, none⟩ = _ := cell_of_row _ _ 1 _ _ _ hr2
      have e2 : w4.cell? ⟨w.heap.size + 1 + 1, 2, none⟩ = _ := cell_of_row _ _ 2 _ _ _ hr2
      have f0 := frozen_of_row _ _ 0 _ _ hr2
      have f1 := frozen_of_row _ _ 1 _ _ hr2
      have f2 := frozen_of_row _ _ 2 _ _ hr2
      have FIN : Hid (∀ W', W' = _ → _) := put3 w4 (w.heap.size + 1 + 1) _ _ _ (.string ⟨#[]⟩) (.string ⟨#[]⟩) (.bool false) _ hr2
      clear hr2
      go_wp2
      obtain ⟨G, hb⟩ := FIN.out _ rfl
      refine bodyPost_ret (by simp [results, Tryd.results30, go_sem, G.1, G.2.1, G.2.2]; try rfl) rfl ?_
      exact ⟨rfl, (over BW.out B4.out).trans (hb _ (by omega))⟩
    | some ad =>
    obtain ⟨M, N, rfl, hN, i1, i2, i3, i4, i5, i6, i7, i8⟩ := conA_ok hcon
    have hnN : N = n := by have := HN.out; omega
    subst hnN
    rw [Int.toNat_natCast]
    have RN : Hid (∀ w', Tab w' → ReadsT w' (.slice (some ad) N lc) xs → Calls _ _ _ _ _) := RM.out M i1
    have IN : Hid (RT wd (xs.take M) ≠ old → 1 ≤ M ∧ M < N) := fun hne => by
      obtain ⟨M', e, q1, q2⟩ := old_inner (wd := wd) (m := (M : Int)) (xs := xs) (old := old) (proof := proof) HE.out (by rw [Int.toNat_natCast]; exact hne)
      have := HN.out
      omega
    obtain ⟨o, HOO⟩ : ∃ o, Hid (RT wd (xs.take M) = o) := ⟨_, rfl⟩
    rw [HOO.out] at RN IN ⊢
    have g1 : (M : Int) ≤ lc := by omega
    by_cases hs : o = old
    · rw [if_pos hs]
      have qo : (o.toList == old.toList) = true := by rw [beqL]; exact decide_eq_true hs
      clear hlh hs i2 i3 i4 i5 i6 i7 i8 hcon IN hN
      go_enter Tryd.func30, Tryd.ntmps30
      go_wp2_with fail
      try rw [hw]
      go_region_held3 (fun w' => Below W.heap.size W w' ∧ w'.cell? ⟨w.heap.size, 0, none⟩ = some (.int .i64 (M : Nat)) ∧ w'.cell? ⟨w.heap.size + 1, 0, none⟩ = some (.string old)) (first | exact SX.out _ HB0.out | exact SX.out _ B1.out | exact SX.out _ B2.out) (first | (go_at_call 12; refine (RC.out _ (GD.out _ HB0.out).1 (GD.out _ HB0.out).2.1).mono ?_; rintro e w1 ⟨rfl, hb1⟩; have B1 : Hid (Below W.heap.size W w1) := HB1.out w1 hb1; clear hb1) | (go_at_call 18; refine (IC.out _ (GD.out _ B1.out).1 (GD.out _ B1.out).2.2).mono ?_; rintro e w2 ⟨rfl, hb2⟩; have B2 : Hid (Below W.heap.size W w2) := over B1.out hb2; clear hb2))
      obtain ⟨b2, c7, c8⟩ := SX.out w2 B2.out
      clear b2
      go_wp2_with fail
      have HB2 : Hid (Below W.heap.size W w2.drew) := below_dr B2.out
      go_region_held3 (fun w' => Below W.heap.size W w' ∧ w'.cell? ⟨w.heap.size, 0, none⟩ = some (.int .i64 (M : Nat)) ∧ w'.cell? ⟨w.heap.size + 1, 0, none⟩ = some (.string old)) (first | exact SX.out _ HB2.out | exact SX.out _ B4.out) ((go_at_call 12; refine (RN.out _ (GD.out _ HB2.out).1 (GD.out _ HB2.out).2.1).mono ?_; rintro e w4 ⟨rfl, hb4⟩; have B4 : Hid (Below W.heap.size W w4) := over HB2.out hb4; clear hb4))
      clear c7 c8
      have hr2 := F4.out w4 B4.out
      have e0 : w4.cell? ⟨w.heap.size + 1 + 1, 0, none⟩ = _ := cell_of_row _ _ 0 _ _ _ hr2
      have e1 : w4.cell? ⟨w.heap.size + 1 + 1, 1, none⟩ = _ := cell_of_row _ _ 1 _ _ _ hr2
      have e2 : w4.cell? ⟨w.heap.size + 1 + 1, 2, none⟩ = _ := cell_of_row _ _ 2 _ _ _ hr2
      have f0 := frozen_of_row _ _ 0 _ _ hr2
      have f1 := frozen_of_row _ _ 1 _ _ hr2
      have f2 := frozen_of_row _ _ 2 _ _ hr2
      have FIN : Hid (∀ W', W' = _ → _) := put3 w4 (w.heap.size + 1 + 1) _ _ _ (.string ⟨#[]⟩) (.string ⟨#[]⟩) (.bool false) _ hr2
      clear hr2
      go_wp2
      obtain ⟨G, hb⟩ := FIN.out _ rfl
      refine bodyPost_ret (by simp [results, Tryd.results30, go_sem, G.1, G.2.1, G.2.2]; try rfl) rfl ?_
      exact ⟨rfl, (over BW.out B4.out).trans (hb _ (by omega))⟩
    · rw [if_neg hs]
      have qo : (o.toList == old.toList) = false := by rw [beqL]; exact decide_eq_false hs
      obtain ⟨m1, m2⟩ := IN.out hs
      obtain ⟨b, off, ha, hq⟩ := hlh.resolve_left (by omega)
      injection ha with ha
      subst ha
      have AC : Hid (∀ w4 V, Below W.heap.size W w4 → V = (w4.alloc (.cells #[.slice pa k pc] 100)).alloc (.cells #[.int .i64 wd, .func (.func 62) #[] #[.pointer (some ⟨w.heap.size, 0, none⟩)], .bool true, .nilFunc, .func (.func 63) #[] #[.pointer (some ⟨w.heap.size, 0, none⟩), .pointer (some ⟨w.heap.size + 1, 0, none⟩), .pointer (some ⟨w4.heap.size, 0, none⟩)]] 106) → Calls Tryd.prog 65 #[.agg #[.int .i64 wd, .func (.func 62) #[] #[.pointer (some ⟨w.heap.size, 0, none⟩)], .bool true, .nilFunc, .func (.func 63) #[] #[.pointer (some ⟨w.heap.size, 0, none⟩), .pointer (some ⟨w.heap.size + 1, 0, none⟩), .pointer (some ⟨w4.heap.size, 0, none⟩)]], .slice (some ⟨b, off, none⟩) N lc] V fun e w' => e = .returned (clV (oldT wd M xs old proof)) ∧ Below W.heap.size W w') := by
        intro w4 V hb4 hV
        obtain ⟨V1, hV1⟩ : ∃ V1, V1 = w4.alloc (.cells #[.slice pa k pc] 100) := ⟨_, rfl⟩
        rw [← hV1] at hV
        have b1 : Below w4.heap.size w4 V1 := by rw [hV1]; exact (Below.refl _ _).alloc (Nat.le_refl _) _
        have b2 : Below V1.heap.size V1 V := by rw [hV]; exact (Below.refl _ _).alloc (Nat.le_refl _) _
        have n1 : V1.heap[w4.heap.size]? = some (.cells #[.slice pa k pc] 100 (0, 0)) := by rw [hV1]; exact heap_alloc_new w4 _
        have z1 : V1.heap.size = w4.heap.size + 1 := by rw [hV1]; simp
        have bV : Below W.heap.size W V := over hb4 (over b1 b2)
        have bw := over BW.out bV
        have kk : Kp no w V := Kp.of_below bw
        have hp : KPile w.heap.size w4.heap.size proof V := ⟨(over BW.out hb4).size, _, (b2.block _ (by rw [z1]; omega)).trans n1, OL.out.2.1.keep kk (fun _ e => e.elim)⟩
        have lw : w.heap.size + 1 < w4.heap.size := by have h1 := hb4.size; have h2 : w.heap.size + 1 < W.heap.size := World.block_lt_of_cell? _ _ HX.out.2; omega
        have hS : OS w.heap.size w4.heap.size w.heap.size (w.heap.size + 1) M old proof V := ⟨hp, (bV.cell (World.block_lt_of_cell? _ _ HX.out.1)).trans HX.out.1, (bV.cell (World.block_lt_of_cell? _ _ HX.out.2)).trans HX.out.2, OL.out.2.2.1.down bw⟩
        have z := againstC (oldFl (base := w.heap.size) (pb := w4.heap.size) (mb := w.heap.size) (ob := w.heap.size + 1) (M := M) (N := xs.length) (wd := wd) (old := old) (by rw [HN.out]; omega) OL.out.2.2.1.big (by omega) (by omega) i5) hwd (KS := fun w' => w'.cell? ⟨w.heap.size, 0, none⟩ = some (.int .i64 (M : Nat))) (fun h => h.m) (fun h hb => (hb.cell (World.block_lt_of_cell? _ _ h)).trans h) w.heap.size (fun k e => by omega) (some ⟨b, off, none⟩) lc xs (by rw [HN.out]; omega) OL.out.2.2.2 (fun a b w' _ _ h => old1 w.heap.size M a b w' h) (fun _ _ h1 h2 => dirO M h1 h2) proof V ⟨by rw [HN.out, i3 (by omega)]; exact Nat.le_refl _, i4, Nat.le_refl _⟩ hS (by rw [HN.out]; exact OL.out.1.keep kk (fun _ e => e.elim))
        rw [HN.out] at z
        refine z.mono fun e w' h => ⟨?_, ?_⟩
        · rw [h.1]; unfold oldT; rw [HN.out]
        · have k2 : Below W.heap.size V w' := h.2.below (fun k e => by have := hb4.size; omega) bV.size
          exact bV.trans k2
      obtain ⟨O, HO⟩ : ∃ O, Hid (oldT wd M xs old proof = O) := ⟨_, rfl⟩
      obtain ⟨y0, y1', y2', hgo⟩ := clV_of O
      rw [HO.out, hgo] at AC ⊢
      clear hlh hs i2 i3 i4 i5 i6 i7 i8 hcon IN hN hq hgo HO
      go_enter Tryd.func30, Tryd.ntmps30
      go_wp2_with fail
      try rw [hw]
      go_region_held3 (fun w' => Below W.heap.size W w' ∧ w'.cell? ⟨w.heap.size, 0, none⟩ = some (.int .i64 (M : Nat)) ∧ w'.cell? ⟨w.heap.size + 1, 0, none⟩ = some (.string old)) (first | exact SX.out _ HB0.out | exact SX.out _ B1.out | exact SX.out _ B2.out) (first | (go_at_call 12; refine (RC.out _ (GD.out _ HB0.out).1 (GD.out _ HB0.out).2.1).mono ?_; rintro e w1 ⟨rfl, hb1⟩; have B1 : Hid (Below W.heap.size W w1) := HB1.out w1 hb1; clear hb1) | (go_at_call 18; refine (IC.out _ (GD.out _ B1.out).1 (GD.out _ B1.out).2.2).mono ?_; rintro e w2 ⟨rfl, hb2⟩; have B2 : Hid (Below W.heap.size W w2) := over B1.out hb2; clear hb2))
      obtain ⟨b2, c7, c8⟩ := SX.out w2 B2.out
      clear b2
      go_wp2_with fail
      have HB2 : Hid (Below W.heap.size W w2.drew) := below_dr B2.out
      go_region_held3 (fun w' => Below W.heap.size W w' ∧ w'.cell? ⟨w.heap.size, 0, none⟩ = some (.int .i64 (M : Nat)) ∧ w'.cell? ⟨w.heap.size + 1, 0, none⟩ = some (.string old)) (first | exact SX.out _ HB2.out | exact SX.out _ B4.out) ((go_at_call 12; refine (RN.out _ (GD.out _ HB2.out).1 (GD.out _ HB2.out).2.1).mono ?_; rintro e w4 ⟨rfl, hb4⟩; have B4 : Hid (Below W.heap.size W w4) := over HB2.out hb4; clear hb4))
      clear c7 c8
      go_wp2_with fail
      refine (AC.out w4 _ B4.out rfl).mono ?_
      rintro e w5 ⟨rfl, hb5⟩
      have B5 : Hid (Below W.heap.size W w5) := hb5
      clear hb5
      have hr2 := F4.out w5 B5.out
      have e0 : w5.cell? ⟨w.heap.size + 1 + 1, 0, none⟩ = _ := cell_of_row _ _ 0 _ _ _ hr2
      have e1 : w5.cell? ⟨w.heap.size + 1 + 1, 1, none⟩ = _ := cell_of_row _ _ 1 _ _ _ hr2
      have e2 : w5.cell? ⟨w.heap.size + 1 + 1, 2, none⟩ = _ := cell_of_row _ _ 2 _ _ _ hr2
      have f0 := frozen_of_row _ _ 0 _ _ hr2
      have f1 := frozen_of_row _ _ 1 _ _ hr2
      have f2 := frozen_of_row _ _ 2 _ _ hr2
      have FIN : Hid (∀ W', W' = _ → _) := put3 w5 (w.heap.size + 1 + 1) _ _ _ (.string y0) (.string y1') (.bool y2') _ hr2
      clear hr2
      go_wp2
      obtain ⟨G, hb⟩ := FIN.out _ rfl
      refine bodyPost_ret (by simp [results, Tryd.results30, go_sem, G.1, G.2.1, G.2.2]; try rfl) rfl ?_
      exact ⟨rfl, (over BW.out B5.out).trans (hb _ (by omega))⟩
  · rw [if_neg h]
    have q : (E == 0) = false := by rw [beq_eq_false_iff_ne]; exact h
    have q2 : (E != 0) = true := by rw [bne, q]; rfl
    clear h hlh
    go_enter Tryd.func30, Tryd.ntmps30
    go_wp2_with fail
    try rw [hw]
    go_region_held3 (fun w' => Below W.heap.size W w' ∧ w'.cell? ⟨w.heap.size, 0, none⟩ = some (.int .i64 m) ∧ w'.cell? ⟨w.heap.size + 1, 0, none⟩ = some (.string old)) (first | exact SX.out _ HB0.out | exact SX.out _ B1.out | exact SX.out _ B2.out) (first | (go_at_call 12; refine (RC.out _ (GD.out _ HB0.out).1 (GD.out _ HB0.out).2.1).mono ?_; rintro e w1 ⟨rfl, hb1⟩; have B1 : Hid (Below W.heap.size W w1) := HB1.out w1 hb1; clear hb1) | (go_at_call 18; refine (IC.out _ (GD.out _ B1.out).1 (GD.out _ B1.out).2.2).mono ?_; rintro e w2 ⟨rfl, hb2⟩; have B2 : Hid (Below W.heap.size W w2) := over B1.out hb2; clear hb2))
    obtain ⟨b2, c7, c8⟩ := SX.out w2 B2.out
    clear b2
    go_wp2_with fail
    go_quiet (fail)
    obtain ⟨w4, H4⟩ : ∃ x, Hid (x = w2.drewN nq) := ⟨_, rfl⟩
    rw [← H4.out]
    have B4 : Hid (Below W.heap.size W w4) := by rw [H4.out]; exact below_dN B2.out _
    clear H4 c7 c8
    have hr2 := F4.out w4 B4.out
    have e0 : w4.cell? ⟨w.heap.size + 1 + 1, 0, none⟩ = _ := cell_of_row _ _ 0 _ _ _ hr2
    have e1 : w4.cell? ⟨w.heap.size + 1 + 1, 1, none⟩ = _ := cell_of_row _ _ 1 _ _ _ hr2
    have e2 : w4.cell? ⟨w.heap.size + 1 + 1, 2, none⟩ = _ := cell_of_row _ _ 2 _ _ _ hr2
    have f0 := frozen_of_row _ _ 0 _ _ hr2
    have f1 := frozen_of_row _ _ 1 _ _ hr2
    have f2 := frozen_of_row _ _ 2 _ _ hr2
    have FIN : Hid (∀ W', W' = _ → _) := put3 w4 (w.heap.size + 1 + 1) _ _ _ (.string ⟨#[]⟩) (.string ⟨#[]⟩) (.bool false) _ hr2
    clear hr2
    go_wp2
    obtain ⟨G, hb⟩ := FIN.out _ rfl
    refine bodyPost_ret (by simp [results, Tryd.results30, go_sem, G.1, G.2.1, G.2.2]; try rfl) rfl ?_
    exact ⟨rfl, (over BW.out B4.out).trans (hb _ (by omega))⟩
end Go.Proofs.YthmfljjpanghgaaDoor.oc
