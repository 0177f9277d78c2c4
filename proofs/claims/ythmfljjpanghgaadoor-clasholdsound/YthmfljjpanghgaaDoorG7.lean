import Derived.Test.YthmfljjpanghgaaDoorG6
import Derived.Test.YthmfljjpanghgaaDoorG5
import Derived.Deep.RegionWith
import Derived.Deep.RegionHeld3
import Derived.Test.YthmfljjpanghgaaDoorG3
namespace Go.Proofs.YthmfljjpanghgaaDoor.qr
open Go.RowKit Go.PlainAid
open Go.Proofs.YthmfljjpanghgaaDoor.pl Go.Proofs.YthmfljjpanghgaaDoor.pi Go.Proofs.YthmfljjpanghgaaDoor.pj Go.Proofs.YthmfljjpanghgaaDoor.rf Go.Proofs.YthmfljjpanghgaaDoor.ca Go.Proofs.YthmfljjpanghgaaDoor.cb Go.Proofs.YthmfljjpanghgaaDoor.cp Go.Proofs.YthmfljjpanghgaaDoor.ga Go.Proofs.YthmfljjpanghgaaDoor.aa Go.Proofs.YthmfljjpanghgaaDoor.ka Go.Proofs.YthmfljjpanghgaaDoor.kb Go.Proofs.YthmfljjpanghgaaDoor.kc Go.Proofs.YthmfljjpanghgaaDoor.kp Go.Proofs.YthmfljjpanghgaaDoor.lk Go.Proofs.YthmfljjpanghgaaDoor.qa Go.Proofs.YthmfljjpanghgaaDoor.qb Go.Proofs.YthmfljjpanghgaaDoor.wt Go.Proofs.YthmfljjpanghgaaDoor.wb
set_option linter.unusedVariables false

-- the older and the newer hash of a part, by what is left of the proof
def WG (wd : Int) (m : Nat) (old : ByteArray) : Wy (List ByteArray) (ByteArray × ByteArray) where
  lk := fun p a b => (lkC m a b, p)
  hv := fun p a b s => if s = 0 then ((old, old), p) else if m ≤ a then ((⟨#[]⟩, p.headD ByteArray.empty), p.drop 1) else ((p.headD ByteArray.empty, p.headD ByteArray.empty), p.drop 1)
  jn := fun l r => (if r.1 = ⟨#[]⟩ then l.1 else NF wd l.1 r.1, NF wd l.2 r.2)
structure SG (base pb ob fb mb wb sob smb : Nat) (wd : Int) (m : Nat) (old : ByteArray) (p : List ByteArray) (w : World) : Prop where
  sh : Bx w sob 0 m ∧ w.cell? ⟨smb, 0, none⟩ = some (.int .i64 m)
  pp : Pile base pb p w
  bo : w.cell? ⟨ob, 0, none⟩ = some (.string old)
  bf : w.cell? ⟨fb, 0, none⟩ = some (.func (.func 52) #[.pointer (some ⟨pb, 0, none⟩)] #[])
  bm : w.cell? ⟨mb, 0, none⟩ = some (.int .i64 m)
  bw : w.cell? ⟨wb, 0, none⟩ = some (.int .i64 wd)
  tab : Tab w
  big : 2 ≤ base ∧ base ≤ w.heap.size
  ne : ob ≠ pb ∧ fb ≠ pb ∧ mb ≠ pb ∧ wb ≠ pb ∧ sob ≠ pb ∧ smb ≠ pb
section
variable {base pb ob fb mb wb sob smb : Nat} {wd : Int} {m : Nat} {old : ByteArray}
def DG (base pb ob fb mb wb sob smb : Nat) : Nat → Prop := fun b => b < base ∨ b = pb ∨ b = ob ∨ b = fb ∨ b = mb ∨ b = wb ∨ b = sob ∨ b = smb
theorem SG.keep {p : List ByteArray} {w w' : World} {G : Nat → Prop} (h : SG base pb ob fb mb wb sob smb wd m old p w) (k : Kp G w w') (hg : ∀ b, G b → ¬ DG base pb ob fb mb wb sob smb b) : SG base pb ob fb mb wb sob smb wd m old p w' := by
  have g1 : ∀ b, G b → base ≤ b := fun b e => by
    have := hg b e
    unfold DG at this
    omega
  have n : ∀ b, DG base pb ob fb mb wb sob smb b → ¬ G b := fun b d e => hg b e d
  have hb : Below base w w' := k.below g1 h.big.2
  exact ⟨⟨⟨k.cell h.sh.1.1 (n _ (by unfold DG; omega)), k.cell h.sh.1.2 (n _ (by unfold DG; omega))⟩, k.cell h.sh.2 (n _ (by unfold DG; omega))⟩, h.pp.keep k g1 (n _ (by unfold DG; omega)), k.cell h.bo (n _ (by unfold DG; omega)), k.cell h.bf (n _ (by unfold DG; omega)), k.cell h.bm (n _ (by unfold DG; omega)), k.cell h.bw (n _ (by unfold DG; omega)), h.tab.below hb h.big.1, ⟨h.big.1, Nat.le_trans h.big.2 k.size⟩, h.ne⟩
theorem SG.later {p : List ByteArray} {w w' : World} (h : SG base pb ob fb mb wb sob smb wd m old p w) (hb : Below w.heap.size w w') : SG base pb ob fb mb wb sob smb wd m old p w' := h.keep (G := fun _ => False) (Kp.of_below hb) (fun _ e => e.elim)
theorem SG.dl {p : List ByteArray} {w : World} (h : SG base pb ob fb mb wb sob smb wd m old p w) : ∀ b, DG base pb ob fb mb wb sob smb b → b < w.heap.size := fun b d => by
  rcases d with d | rfl | rfl | rfl | rfl | rfl | rfl | rfl
  · have := h.big.2; omega
  · exact h.pp.lt
  · exact World.block_lt_of_cell? _ _ h.bo
  · exact World.block_lt_of_cell? _ _ h.bf
  · exact World.block_lt_of_cell? _ _ h.bm
  · exact World.block_lt_of_cell? _ _ h.bw
  · exact World.block_lt_of_cell? _ _ h.sh.1.1
  · exact World.block_lt_of_cell? _ _ h.sh.2
-- the pile's box alone is written
theorem SG.next {h0 : ByteArray} {t : List ByteArray} {w w' : World} (h : SG base pb ob fb mb wb sob smb wd m old (h0 :: t) w) (hp : Pile base pb t w') (k : Kp (fun b => b = pb) w w') : SG base pb ob fb mb wb sob smb wd m old t w' := by
  obtain ⟨n1, n2, n3, n4, n5, n6⟩ := h.ne
  have hb : Below base w w' := k.below (fun b e => by subst e; exact hp.new) h.big.2
  exact ⟨⟨⟨k.cell h.sh.1.1 n5, k.cell h.sh.1.2 n5⟩, k.cell h.sh.2 n6⟩, hp, k.cell h.bo n1, k.cell h.bf n2, k.cell h.bm n3, k.cell h.bw n4, h.tab.below hb h.big.1, ⟨h.big.1, Nat.le_trans h.big.2 k.size⟩, h.ne⟩
end
end Go.Proofs.YthmfljjpanghgaaDoor.qr

namespace Go.Proofs.YthmfljjpanghgaaDoor.qs
open Go.RowKit Go.PlainAid
open Go.Proofs.YthmfljjpanghgaaDoor.pl Go.Proofs.YthmfljjpanghgaaDoor.pi Go.Proofs.YthmfljjpanghgaaDoor.pj Go.Proofs.YthmfljjpanghgaaDoor.rf Go.Proofs.YthmfljjpanghgaaDoor.ca Go.Proofs.YthmfljjpanghgaaDoor.cb Go.Proofs.YthmfljjpanghgaaDoor.cp Go.Proofs.YthmfljjpanghgaaDoor.ga Go.Proofs.YthmfljjpanghgaaDoor.aa Go.Proofs.YthmfljjpanghgaaDoor.ka Go.Proofs.YthmfljjpanghgaaDoor.kb Go.Proofs.YthmfljjpanghgaaDoor.kc Go.Proofs.YthmfljjpanghgaaDoor.kp Go.Proofs.YthmfljjpanghgaaDoor.lk Go.Proofs.YthmfljjpanghgaaDoor.qa Go.Proofs.YthmfljjpanghgaaDoor.qb Go.Proofs.YthmfljjpanghgaaDoor.wt Go.Proofs.YthmfljjpanghgaaDoor.wb Go.Proofs.YthmfljjpanghgaaDoor.qr
set_option linter.unusedVariables false

section
variable {base pb ob fb mb wb sob smb : Nat} {wd : Int} {m : Nat} {old : ByteArray}
set_option maxHeartbeats 3200000 in
theorem haveG (p : List ByteArray) (a b s : Nat) (hs : s < 2) (w : World) (h : SG base pb ob fb mb wb sob smb wd m old p w) (hp : s = 1 → 1 ≤ p.length) :
    Calls Tryd.prog 80 #[.agg #[.int .i64 a, .int .i64 b], .int .i64 s, .pointer (some ⟨ob, 0, none⟩), .pointer (some ⟨fb, 0, none⟩), .pointer (some ⟨mb, 0, none⟩)] w fun e w' => e = .returned (e2 ((WG wd m old).hv p a b s).1) ∧ SG base pb ob fb mb wb sob smb wd m old ((WG wd m old).hv p a b s).2 w' ∧ Kp (fun b => b = pb) w w' := by
  have BA : Hid (Below w.heap.size w ((w.alloc (.cells #[.int .i64 a, .int .i64 b] 114)).alloc (.cells #[.string ⟨#[]⟩, .string ⟨#[]⟩] 84))) := ((Below.refl _ _).alloc (Nat.le_refl _) _).alloc (by simp) _
  have HA : Hid (SG base pb ob fb mb wb sob smb wd m old p ((w.alloc (.cells #[.int .i64 a, .int .i64 b] 114)).alloc (.cells #[.string ⟨#[]⟩, .string ⟨#[]⟩] 84))) := h.later BA.out
  have HBX : Hid (_ ∧ _ ∧ _ ∧ _) := two_box w (.int .i64 a) (.int .i64 b) (.string ⟨#[]⟩) (.string ⟨#[]⟩) 114 84
  have R8 := two_start w (.int .i64 a) (.int .i64 b)
  have HD : Hid (¬ DG base pb ob fb mb wb sob smb (w.heap.size + 1)) := fun d => by have := h.dl _ d; omega
  have lpb : pb < w.heap.size := h.pp.lt
  have cO := HA.out.bo
  have cF := HA.out.bf
  have cM := HA.out.bm
  rcases (show s = 0 ∨ s = 1 by omega) with rfl | rfl
  · have e : (WG wd m old).hv p a b 0 = ((old, old), p) := rfl
    rw [e]
    unfold e2
    simp only
    have B2 : Hid (Below w.heap.size w ((w.alloc (.cells #[.int .i64 a, .int .i64 b] 114)).alloc (.cells #[.string old, .string old] 84))) := ((Below.refl _ _).alloc (Nat.le_refl _) _).alloc (by simp) _
    have S2 : Hid (SG base pb ob fb mb wb sob smb wd m old p ((w.alloc (.cells #[.int .i64 a, .int .i64 b] 114)).alloc (.cells #[.string old, .string old] 84))) := h.later B2.out
    clear h hp e R8 hs
    go_enter Tryd.func80, Tryd.ntmps80
    go_wp2
    (try simp only [Exit.inBlock, Exit.then])
    refine bodyPost_ret (by simp [results, Tryd.results80, go_sem]; try rfl) rfl ?_
    exact ⟨rfl, S2.out, Kp.of_below B2.out⟩
  · obtain ⟨y, t, rfl⟩ : ∃ y t, p = y :: t := by
      cases p with
      | nil => have := hp rfl; simp at this
      | cons y t => exact ⟨y, t, rfl⟩
    have NC : Hid (Calls _ _ _ _ _) := nextC base pb y t _ HA.out.pp
    have cA := HBX.out.1
    obtain ⟨x, hx1, hx2⟩ : ∃ x : ByteArray, (WG wd m old).hv (y :: t) a b 1 = ((x, y), t) ∧ ((m ≤ a ∧ x = ⟨#[]⟩) ∨ (¬ m ≤ a ∧ x = y)) := by
      by_cases g : m ≤ a
      · exact ⟨⟨#[]⟩, by show (if m ≤ a then _ else _) = _; rw [if_pos g]; rfl, .inl ⟨g, rfl⟩⟩
      · exact ⟨y, by show (if m ≤ a then _ else _) = _; rw [if_neg g]; rfl, .inr ⟨g, rfl⟩⟩
    rw [hx1]
    unfold e2
    simp only
    have H8 : Hid (_ = _) := R8
    clear h hp hx1 R8 hs
    rcases hx2 with ⟨g, rfl⟩ | ⟨g, rfl⟩
    all_goals (
      go_enter Tryd.func80, Tryd.ntmps80
      go_wp2_with fail
      refine NC.out.mono ?_
      rintro e w1 ⟨rfl, hp1, hk1⟩
      have S1 : Hid (SG base pb ob fb mb wb sob smb wd m old t w1) := HA.out.next hp1 hk1
      have K1 : Hid (Kp (fun b => b = pb) w w1) := (Kp.of_below BA.out).trans hk1
      have cM1 := S1.out.bm
      have cA1 := hk1.cell cA (fun e => by omega)
      have r1 := (hk1.block _ (Array.getElem?_eq_some_iff.1 H8.out).1 (fun e => by omega)).trans H8.out
      have f0 := frozen_of_row _ _ 0 _ _ r1
      have f1 := frozen_of_row _ _ 1 _ _ r1
      have d0 : w1.cell? ⟨w.heap.size + 1, 0, none⟩ = some (.string ⟨#[]⟩) := cell_of_row _ _ 0 _ _ _ r1
      have d1 : w1.cell? ⟨w.heap.size + 1, 1, none⟩ = some (.string ⟨#[]⟩) := cell_of_row _ _ 1 _ _ _ r1
      have RR : Hid (w1.heap[w.heap.size + 1]? = some (.cells #[.string ⟨#[]⟩, .string ⟨#[]⟩] 84 (0, 0))) := r1
      clear hp1 hk1 r1 cO cF cM cA
      go_wp2
      (try simp only [Exit.inBlock, Exit.then])
      refine bodyPost_ret (by simp [results, Tryd.results80, go_sem, cell_of_row _ _ 0 _ _ _ (set_two RR.out _ _), cell_of_row _ _ 1 _ _ _ (set_two RR.out _ _)]; try rfl) rfl ?_
      exact ⟨rfl, S1.out.keep (kp_two (A := fun q => q = w.heap.size + 1) w1 _ _ _ rfl) (fun b e => by rw [e]; exact HD.out), kp_new K1.out (kp_two (A := fun q => q = w.heap.size + 1) w1 _ _ _ rfl) (by omega)⟩)
end
end Go.Proofs.YthmfljjpanghgaaDoor.qs

namespace Go.Proofs.YthmfljjpanghgaaDoor.qd
open Go.RowKit Go.PlainAid
open Go.Proofs.YthmfljjpanghgaaDoor.pl Go.Proofs.YthmfljjpanghgaaDoor.pi Go.Proofs.YthmfljjpanghgaaDoor.pj Go.Proofs.YthmfljjpanghgaaDoor.rf Go.Proofs.YthmfljjpanghgaaDoor.ca Go.Proofs.YthmfljjpanghgaaDoor.cb Go.Proofs.YthmfljjpanghgaaDoor.cp Go.Proofs.YthmfljjpanghgaaDoor.ga Go.Proofs.YthmfljjpanghgaaDoor.aa Go.Proofs.YthmfljjpanghgaaDoor.ka Go.Proofs.YthmfljjpanghgaaDoor.kb Go.Proofs.YthmfljjpanghgaaDoor.kc Go.Proofs.YthmfljjpanghgaaDoor.kp Go.Proofs.YthmfljjpanghgaaDoor.lk Go.Proofs.YthmfljjpanghgaaDoor.mi Go.Proofs.YthmfljjpanghgaaDoor.co Go.Proofs.YthmfljjpanghgaaDoor.cn Go.Proofs.YthmfljjpanghgaaDoor.dc Go.Proofs.YthmfljjpanghgaaDoor.wt Go.Proofs.YthmfljjpanghgaaDoor.qa Go.Proofs.YthmfljjpanghgaaDoor.qb Go.Proofs.YthmfljjpanghgaaDoor.qc
set_option linter.unusedVariables false

def ldP (wd : Int) (i n : Nat) (hash : ByteArray) (path : List ByteArray) : ByteArray := (go (WS wd (lkI i) (fun _ => 0)) (0, [hash], path) 0 n).1
theorem claims (i : Nat) (n : Nat) : ∀ a b, b - a = n → a < b → (WL (fl (lkI i)) a b).length ≤ 1 ∧ (¬ (a ≤ i ∧ i < b) → (WL (fl (lkI i)) a b).length = 0) := by
  induction n using Nat.strongRecOn with
  | ind n ih =>
    intro a b hn hab
    by_cases h : a ≤ i ∧ i < b
    · refine ⟨?_, fun g => absurd h g⟩
      by_cases h1 : b - a = 1
      · rw [WL_take (lk := fl (lkI i)) (by unfold fl lkI; rw [if_pos h, if_pos h1]; rfl)]; simp
      · have h2 : 2 ≤ b - a := by omega
        have hh := half_lt h2
        obtain ⟨l1, l2⟩ := ih (half (b - a)) (by omega) a (a + half (b - a)) (by omega) (by omega)
        obtain ⟨r1, r2⟩ := ih (b - a - half (b - a)) (by omega) (a + half (b - a)) b (by omega) (by omega)
        by_cases g : i < a + half (b - a)
        · rw [WL_left (lk := fl (lkI i)) (by rw [fl_two] <;> (unfold lkI; rw [if_pos h, if_neg h1, if_pos g]) ; omega) h2, List.length_append, r2 (by omega)]; omega
        · rw [WL_right (lk := fl (lkI i)) (by rw [fl_two] <;> (unfold lkI; rw [if_pos h, if_neg h1, if_neg g]); all_goals omega) h2, List.length_append, l2 (by omega)]; omega
    · have e : WL (fl (lkI i)) a b = [] := WL_pass (by unfold fl lkI; rw [if_neg h, if_neg (by omega), if_pos rfl])
      rw [e]
      exact ⟨by simp, fun _ => rfl⟩
theorem text_reads (w : World) (h : ByteArray) : ReadsT (w.alloc (.cells #[.string h] 9)) (.slice (some ⟨w.heap.size, 0, none⟩) 1 1) [h] :=
  ⟨_, 1, rfl, Nat.le_refl _, .inr ⟨w.heap.size, 0, rfl, fun i hi => by
    obtain rfl : i = 0 := by simp at hi; omega
    rw [World.cell?_alloc_at _ _ _ _ rfl]; rfl⟩⟩
set_option maxHeartbeats 1600000 in
theorem leadsC (wd : Int) (i n : Nat) (hash : ByteArray) (v : Value) (path : List ByteArray) (h1 : i < n) (hn : n ≤ 4611686018427387904) (w : World) (hR : ReadsT w v path) (hT : Tab w) (hw : hash.size = wid wd) (hp : Wide wd path) (hl : path.length = cI i n) :
    Calls Tryd.prog 46 #[.int .i64 wd, .int .i64 i, .int .i64 n, .string hash, v] w fun e w' => e = .returned (.string (ldP wd i n hash path)) ∧ (ldP wd i n hash path).size = wid wd ∧ Below w.heap.size w w' := by
  have IC : Hid (∀ w, Calls _ _ _ _ _) := fun w => inclusionC i w
  have B1 : Hid (Below w.heap.size w (w.alloc (.cells #[.string hash] 9))) := (Below.refl _ _).alloc (Nat.le_refl _) _
  have s1 : (w.alloc (.cells #[.string hash] 9)).heap.size = w.heap.size + 1 := by simp
  have R0 := Old.of (text_reads w hash)
  have R1 := Old.of (hR.later B1.out)
  rw [s1] at R0 R1
  obtain ⟨pa, pc, rfl, _⟩ := hR
  obtain ⟨l, HL⟩ : ∃ l, Hid (path.length = l) := ⟨_, rfl⟩
  obtain ⟨W0, HW0⟩ : ∃ W, Hid (W = w.alloc (.cells #[.string hash] 9)) := ⟨_, rfl⟩
  have HB : Hid (2 ≤ w.heap.size + 1) := Nat.le_trans hT.big (Nat.le_succ _)
  have RC : Hid (∀ w4, w4 = (((w.alloc (.cells #[.string hash] 9)).alloc (.cells #[.slice (some ⟨w.heap.size, 0, none⟩) 1 1] 82)).alloc (.cells #[.slice pa path.length pc] 82)).alloc (.cells #[.int .i64 i] 3) → Calls Tryd.prog 70 #[.int .i64 wd, .int .i64 n, .func (.func 110) #[] #[.pointer (some ⟨w.heap.size + 1 + 1 + 1, 0, none⟩)], .func (.func 52) #[.pointer (some ⟨w.heap.size + 1, 0, none⟩)] #[], .func (.func 52) #[.pointer (some ⟨w.heap.size + 1 + 1, 0, none⟩)] #[]] w4 fun e w' => e = .returned (.string (ldP wd i n hash path)) ∧ (ldP wd i n hash path).size = wid wd ∧ Below w.heap.size w w') := by
    intro w4 hw4
    obtain ⟨w1, e1⟩ : ∃ x, x = w.alloc (.cells #[.string hash] 9) := ⟨_, rfl⟩
    obtain ⟨w2, e2⟩ : ∃ x, x = w1.alloc (.cells #[.slice (some ⟨w.heap.size, 0, none⟩) 1 1] 82) := ⟨_, rfl⟩
    obtain ⟨w3, e3⟩ : ∃ x, x = w2.alloc (.cells #[.slice pa path.length pc] 82) := ⟨_, rfl⟩
    rw [← e1] at R0 R1 hw4 s1 B1
    rw [← e2, ← e3] at hw4
    have s2 : w2.heap.size = w.heap.size + 1 + 1 := by rw [e2]; simp [s1]
    have s3 : w3.heap.size = w.heap.size + 1 + 1 + 1 := by rw [e3]; simp [s2]
    have b2 : Below w1.heap.size w1 w2 := by rw [e2]; exact (Below.refl _ _).alloc (Nat.le_refl _) _
    have b3 : Below w2.heap.size w2 w3 := by rw [e3]; exact (Below.refl _ _).alloc (Nat.le_refl _) _
    have b4 : Below w3.heap.size w3 w4 := by rw [hw4]; exact (Below.refl _ _).alloc (Nat.le_refl _) _
    have n2 : w2.heap[w.heap.size + 1]? = some (.cells #[.slice (some ⟨w.heap.size, 0, none⟩) 1 1] 82 (0, 0)) := by rw [← s1, e2]; exact heap_alloc_new w1 _
    have n3 : w3.heap[w.heap.size + 1 + 1]? = some (.cells #[.slice pa path.length pc] 82 (0, 0)) := by rw [← s2, e3]; exact heap_alloc_new w2 _
    have c3 : w3.heap[w.heap.size + 1]? = _ := (b3.block _ (by rw [s2]; omega)).trans n2
    have c4 : w4.heap[w.heap.size + 1]? = _ := (b4.block _ (by rw [s3]; omega)).trans c3
    have p4 : w4.heap[w.heap.size + 1 + 1]? = _ := (b4.block _ (by rw [s3]; omega)).trans n3
    have kk : Kp no w1 w4 := ((Kp.of_below b2).trans (Kp.of_below b3)).trans (Kp.of_below b4)
    have i4 : w4.cell? ⟨w.heap.size + 1 + 1 + 1, 0, none⟩ = some (.int .i64 i) := by rw [← s3, hw4, World.cell?_alloc_at _ _ _ _ rfl]; rfl
    have hb14 : Below w.heap.size w w4 := over (over (over B1.out b2) b3) b4
    have sz : w.heap.size + 1 ≤ w4.heap.size := by have := kk.size; omega
    refine (reckonC (ShI (w.heap.size + 1 + 1 + 1) i) wd n (w.heap.size + 1) (w.heap.size + 1) (w.heap.size + 1 + 1) [hash] path (by omega) hn w4 i4 ⟨Nat.le_refl _, _, c4, R0.keep kk (fun _ e => e.elim)⟩ ⟨by omega, _, p4, R1.keep kk (fun _ e => e.elim)⟩ (hT.down hb14) HB.out sz (by omega) (by omega) (by omega) (fun b e => e.elim) (claims i n 0 n rfl (by omega)).1 (by rw [cI_is h1, hl]; exact Nat.le_refl _) (fun x hx => by simp only [List.mem_cons, List.not_mem_nil, or_false] at hx; rw [hx]; exact hw) hp).mono fun e w' hh => ⟨hh.1, hh.2.1, ?_⟩
    exact hb14.trans (hh.2.2.mono (by omega))
  rw [HL.out] at RC ⊢
  clear R0 R1 hT hw hp hl B1 s1
  go_enter Tryd.func46, Tryd.ntmps46
  go_wp2_with fail
  refine (IC.out _).mono ?_
  rintro e w4 ⟨rfl, hw4⟩
  have RC4 : Hid (Calls _ _ _ _ _) := RC.out w4 hw4
  clear hw4
  go_wp2_with fail
  refine RC4.out.mono ?_
  rintro e w5 ⟨rfl, hz5, hb5⟩
  have H5 : Hid (_ ∧ Below w.heap.size w w5) := ⟨hz5, hb5⟩
  clear hz5 hb5
  go_wp2
  go_ret
  exact ⟨rfl, H5.out.1, H5.out.2⟩
-- what is refused of an inclusion
def incR (wd i n : Int) (path others : List ByteArray) : Int := if (cnt9 1 i 0 n []).2 = 0 then rH wd (cnt9 1 i 0 n []).1 path others else (cnt9 1 i 0 n []).2
theorem reads_nilI (w : World) : ReadsI w (.slice none 0 0) [] := ⟨none, 0, rfl, Nat.le_refl _, .inl rfl⟩
theorem refI (wd i n : Int) (hwd : i64 wd) (vp vo : Value) (path others : List ByteArray) (w : World) (hp : ReadsT w vp path) (ho : ReadsT w vo others) (zp : path.length ≤ 140737488355328) (zo : others.length ≤ 140737488355328) :
    Calls Tryd.prog 44 #[.int .i64 wd, .int .i64 i, .int .i64 n, vp, vo] w fun e w' => e = .returned (.int .i64 (incR wd i n path others)) ∧ Below w.heap.size w w' := by
  have CC : Hid (Calls _ _ _ _ _) := countC 1 i 0 n (.slice none 0 0) [] w (reads_nilI w) (by simp)
  have RH : Hid (∀ w, ReadsT w vp path → ReadsT w vo others → Calls _ _ _ _ _) := fun w h1 h2 => refuseH wd hwd (cnt9 1 i 0 n []).1 vp vo path others w h1 h2 zp zo
  have HR : Hid (ReadsT w vp path ∧ ReadsT w vo others) := ⟨hp, ho⟩
  obtain ⟨pa, pc, rfl, _⟩ := hp
  obtain ⟨oa, oc, rfl, _⟩ := ho
  unfold incR
  obtain ⟨c, HC⟩ : ∃ c, Hid (cnt9 1 i 0 n [] = c) := ⟨_, rfl⟩
  rw [HC.out] at CC RH ⊢
  obtain ⟨c1, c2⟩ := c
  by_cases h : c2 = 0
  · subst h
    rw [if_pos rfl]
    obtain ⟨r, HRR⟩ : ∃ r, Hid (rH wd c1 path others = r) := ⟨_, rfl⟩
    simp only at RH ⊢
    rw [HRR.out] at RH ⊢
    go_enter Tryd.func44, Tryd.ntmps44
    go_wp2_with fail
    refine CC.out.mono ?_
    rintro e w1 ⟨rfl, hb1⟩
    have B1 : Hid (Below w.heap.size w w1) := hb1
    clear hb1
    go_wp2_with fail
    refine (RH.out _ (HR.out.1.later B1.out) (HR.out.2.later B1.out)).mono ?_
    rintro e w2 ⟨rfl, hw⟩
    subst hw
    go_wp2
    go_ret
    exact ⟨rfl, B1.out⟩
  · rw [if_neg h]
    have q : (c2 == 0) = false := by rw [beq_eq_false_iff_ne]; exact h
    clear h
    go_enter Tryd.func44, Tryd.ntmps44
    go_wp2_with fail
    refine CC.out.mono ?_
    rintro e w1 ⟨rfl, hb1⟩
    have B1 : Hid (Below w.heap.size w w1) := hb1
    clear hb1
    go_wp2
    go_ret
    exact ⟨rfl, B1.out⟩
-- if nothing is refused
theorem incR_ok {wd i n : Int} {path others : List ByteArray} (h : incR wd i n path others = 0) : ∃ I N : Nat, i = I ∧ n = N ∧ I < N ∧ N ≤ 4611686018427387904 ∧ path.length = cI I N ∧ Wide wd path ∧ Wide wd others := by
  unfold incR at h
  by_cases h0 : ref9 1 i 0 n [] = 0
  · have hc : cnt9 1 i 0 n [] = (((num9 1 i 0 n [] : Nat) : Int), 0) := by unfold cnt9; rw [if_pos h0]
    rw [hc, if_pos rfl] at h
    unfold ref9 at h0
    rw [if_neg (by omega)] at h0
    by_cases k2 : n < 0 ∨ 4611686018427387904 < n
    · rw [if_pos k2] at h0; omega
    rw [if_neg k2, if_pos rfl] at h0
    by_cases g : i < 0 ∨ n ≤ i
    · rw [if_pos g] at h0; omega
    obtain ⟨I, rfl⟩ : ∃ A : Nat, i = A := ⟨i.toNat, by omega⟩
    obtain ⟨N, rfl⟩ : ∃ A : Nat, n = A := ⟨n.toNat, by omega⟩
    unfold rH at h
    unfold num9 at h
    rw [if_pos rfl, Int.toNat_natCast, Int.toNat_natCast, cI_is (by omega)] at h
    by_cases q : (okH wd others && okH wd path) = true
    · rw [if_pos q] at h
      rw [Bool.and_eq_true] at q
      by_cases q2 : (path.length : Int) = ((cI I N : Nat) : Int)
      · exact ⟨I, N, rfl, rfl, by omega, by omega, by omega, okH_wide q.2, okH_wide q.1⟩
      · rw [if_neg q2] at h; omega
    · rw [if_neg q] at h; omega
  · have hc : cnt9 1 i 0 n [] = (0, ref9 1 i 0 n []) := by unfold cnt9; rw [if_neg h0]
    rw [hc] at h
    simp only at h
    rw [if_neg h0] at h
    exact absurd h h0
def leadA (wd i n : Int) (hash : ByteArray) (path : List ByteArray) : ByteArray × Int := if incR wd i n path [hash] = 0 then (ldP wd i.toNat n.toNat hash path, 0) else (ByteArray.empty, incR wd i n path [hash])
def incA (wd i n : Int) (hash : ByteArray) (path : List ByteArray) (root : ByteArray) : Int := if incR wd i n path [hash, root] = 0 then (if ldP wd i.toNat n.toNat hash path = root then 0 else 90) else incR wd i n path [hash, root]
theorem two_reads (w : World) (h r : ByteArray) : ReadsT (w.alloc (.cells #[.string h, .string r] 9)) (.slice (some ⟨w.heap.size, 0, none⟩) 2 2) [h, r] :=
  ⟨_, 2, rfl, Nat.le_refl _, .inr ⟨w.heap.size, 0, rfl, fun i hi => by
    rw [World.cell?_alloc_at _ _ _ _ rfl]
    have hi2 : i < 2 := by simpa using hi
    rcases (show i = 0 ∨ i = 1 by omega) with rfl | rfl <;> rfl⟩⟩
set_option maxHeartbeats 1600000 in
theorem InclC (wd i n : Int) (hwd : i64 wd) (hash : ByteArray) (vp : Value) (path : List ByteArray) (root : ByteArray) (w : World) (hp : ReadsT w vp path) (zp : path.length ≤ 140737488355328) (hT : Tab w) :
    Calls Tryd.prog 15 #[.int .i64 wd, .int .i64 i, .int .i64 n, .string hash, vp, .string root] w fun e w' => e = .returned (.int .i64 (incA wd i n hash path root)) ∧ Below w.heap.size w w' := by
  have B1 : Hid (Below w.heap.size w (w.alloc (.cells #[.string hash, .string root] 9))) := (Below.refl _ _).alloc (Nat.le_refl _) _
  have RC : Hid (Calls _ _ _ _ _) := refI wd i n hwd vp _ path [hash, root] _ (hp.later B1.out) (two_reads w hash root) zp (by simp)
  have HP : Hid (ReadsT w vp path ∧ Tab w) := ⟨hp, hT⟩
  have hp2 := hp
  obtain ⟨pa, pc, rfl, _⟩ := hp
  unfold incA
  by_cases h : incR wd i n path [hash, root] = 0
  · obtain ⟨I, N, rfl, rfl, q1, q2, q3, q4, q5⟩ := incR_ok h
    have LC : Hid (∀ w', Below w.heap.size w w' → Calls _ _ _ _ _) := fun w' hb => leadsC wd I N hash _ path q1 q2 w' (HP.out.1.later hb) (HP.out.2.down hb) (q5 hash (by simp)) q4 q3
    rw [if_pos h, Int.toNat_natCast, Int.toNat_natCast]
    rw [h] at RC
    obtain ⟨x, HX⟩ : ∃ x, Hid (ldP wd I N hash path = x) := ⟨_, rfl⟩
    rw [HX.out] at LC ⊢
    have MC : Hid (∀ w, Calls _ _ _ _ _) := fun w => matchC x root w
    obtain ⟨y, HY⟩ : ∃ y : Int, Hid ((if x = root then 0 else 90) = y) := ⟨_, rfl⟩
    rw [HY.out] at MC ⊢
    obtain ⟨l, HL⟩ : ∃ l, Hid (path.length = l) := ⟨_, rfl⟩
    rw [HL.out] at RC LC HP ⊢
    clear h q1 q2 q3 q4 q5 hp2 zp
    go_enter Tryd.func15, Tryd.ntmps15
    go_wp2_with fail
    refine RC.out.mono ?_
    rintro e w1 ⟨rfl, hb1⟩
    have B2 : Hid (Below w.heap.size w w1) := over B1.out hb1
    clear hb1
    go_wp2_with fail
    refine (LC.out _ B2.out).mono ?_
    rintro e w2 ⟨rfl, _, hb2⟩
    have B3 : Hid (Below w.heap.size w w2) := over B2.out hb2
    clear hb2
    go_wp2_with fail
    refine (MC.out _).mono ?_
    rintro e w3 ⟨rfl, hw⟩
    subst hw
    go_wp2
    go_ret
    exact ⟨rfl, B3.out⟩
  · rw [if_neg h]
    have q : (incR wd i n path [hash, root] == 0) = false := by rw [beq_eq_false_iff_ne]; exact h
    obtain ⟨r, HX⟩ : ∃ x, Hid (incR wd i n path [hash, root] = x) := ⟨_, rfl⟩
    rw [HX.out] at RC q ⊢
    obtain ⟨l, HL⟩ : ∃ l, Hid (path.length = l) := ⟨_, rfl⟩
    rw [HL.out] at RC ⊢
    clear h hp2 zp HP
    go_enter Tryd.func15, Tryd.ntmps15
    go_wp2_with fail
    refine RC.out.mono ?_
    rintro e w1 ⟨rfl, hb1⟩
    have B2 : Hid (Below w.heap.size w w1) := over B1.out hb1
    clear hb1
    go_wp2
    go_ret
    exact ⟨rfl, B2.out⟩
end Go.Proofs.YthmfljjpanghgaaDoor.qd

namespace Go.Proofs.YthmfljjpanghgaaDoor.qt
open Go.RowKit Go.PlainAid
open Go.Proofs.YthmfljjpanghgaaDoor.pl Go.Proofs.YthmfljjpanghgaaDoor.pi Go.Proofs.YthmfljjpanghgaaDoor.pj Go.Proofs.YthmfljjpanghgaaDoor.rf Go.Proofs.YthmfljjpanghgaaDoor.ca Go.Proofs.YthmfljjpanghgaaDoor.cb Go.Proofs.YthmfljjpanghgaaDoor.cp Go.Proofs.YthmfljjpanghgaaDoor.ga Go.Proofs.YthmfljjpanghgaaDoor.aa Go.Proofs.YthmfljjpanghgaaDoor.ka Go.Proofs.YthmfljjpanghgaaDoor.kb Go.Proofs.YthmfljjpanghgaaDoor.kc Go.Proofs.YthmfljjpanghgaaDoor.kp Go.Proofs.YthmfljjpanghgaaDoor.lk Go.Proofs.YthmfljjpanghgaaDoor.qa Go.Proofs.YthmfljjpanghgaaDoor.qb Go.Proofs.YthmfljjpanghgaaDoor.qc Go.Proofs.YthmfljjpanghgaaDoor.wt Go.Proofs.YthmfljjpanghgaaDoor.wb Go.Proofs.YthmfljjpanghgaaDoor.qr
set_option linter.unusedVariables false

theorem below_swap {B : Nat} {a w : World} {o o' : Obj} (h : Below B a (w.alloc o)) (hB : B ≤ w.heap.size) : Below B a (w.alloc o') :=
  ⟨h.os, h.tape, h.output, by have := h.size; simp at this ⊢; exact this, fun k hk => by
    have e1 : (w.alloc o').heap[k]? = w.heap[k]? := ((Below.refl w.heap.size w).alloc (Nat.le_refl _) o').block k (by omega)
    have e2 : (w.alloc o).heap[k]? = w.heap[k]? := ((Below.refl w.heap.size w).alloc (Nat.le_refl _) o).block k (by omega)
    rw [e1, ← e2]
    exact h.block k hk⟩
theorem step_node {ops : Array Oper} {o : Oper} {a : Act} {w : World} {K : Act → World → Prop} {Q : Exit → Act → World → Prop} {E : Prop} (hg : o.guard = none) (i j k d : Nat)
    (hop : o.op = .call { callee := .value (.func 40), args := #[.tmp i, .tmp j, .tmp k], argTypes := #[3, 9, 9] }) (hd : o.dst = some d) (wd : Int) (x y r : ByteArray)
    (h1 : a.tmps[i]?.getD undef = .int .i64 wd) (h2 : a.tmps[j]?.getD undef = .string x) (h3 : a.tmps[k]?.getD undef = .string y) (C : Hid (Calls Tryd.prog 40 #[.int .i64 wd, .string x, .string y] w fun e w' => e = .returned (.string r) ∧ Below w.heap.size w w'))
    (hK : ∀ w', Below w.heap.size w w' → K { tmps := a.tmps.setIfInBounds d (.string r), defers := a.defers } w') :
    if Region.wanted o (yielded ops a.tmps) = true then Oper.wp Tryd.prog o a w K Q else E := by
  have hw : Region.wanted o (yielded ops a.tmps) = true := by simp [Region.wanted, hg]
  rw [if_pos hw]
  have HKK : Hid _ := hK
  clear hK
  unfold Oper.wp execOp
  simp only [hop]
  go_simp
  refine C.out.mono ?_
  rintro e w' ⟨rfl, h1⟩
  exact HKK.out _ h1
set_option maxRecDepth 100000 in
set_option maxHeartbeats 12800000 in
theorem joinG (wd : Int) (wb : Nat) (l1 l2 r1 r2 : ByteArray) (hl1 : l1.size ≤ 32) (hl2 : l2.size ≤ 32) (hr1 : r1.size ≤ 32) (hr2 : r2.size ≤ 32) (w : World) (hw : w.cell? ⟨wb, 0, none⟩ = some (.int .i64 wd)) (hT : Tab w) :
    Calls Tryd.prog 81 #[.agg #[.string l1, .string l2], .agg #[.string r1, .string r2], .pointer (some ⟨wb, 0, none⟩)] w fun e w' => e = .returned (.agg #[.string (if r1 = ⟨#[]⟩ then l1 else NF wd l1 r1), .string (NF wd l2 r2)]) ∧ Below w.heap.size w w' := by
  obtain ⟨W0, HW0⟩ : ∃ x, x = ((w.alloc (.cells #[.string l1, .string l2] 84)).alloc (.cells #[.string r1, .string r2] 84)).alloc (.cells #[.string ⟨#[]⟩, .string ⟨#[]⟩] 84) := ⟨_, rfl⟩
  have B0 : Below w.heap.size w W0 := by rw [HW0]; exact (((Below.refl _ _).alloc (Nat.le_refl _) _).alloc (by simp) _).alloc (by simp; omega) _
  have b12 : Below ((w.alloc (.cells #[.string l1, .string l2] 84)).alloc (.cells #[.string r1, .string r2] 84)).heap.size ((w.alloc (.cells #[.string l1, .string l2] 84)).alloc (.cells #[.string r1, .string r2] 84)) W0 := by rw [HW0]; exact (Below.refl _ _).alloc (Nat.le_refl _) _
  obtain ⟨t1, t2, t3, t4⟩ := two_box w (.string l1) (.string l2) (.string r1) (.string r2) 84 84
  have c1 := (b12.cell (World.block_lt_of_cell? _ _ t1)).trans t1
  have c2 := (b12.cell (World.block_lt_of_cell? _ _ t2)).trans t2
  have c3 := (b12.cell (World.block_lt_of_cell? _ _ t3)).trans t3
  have c4 := (b12.cell (World.block_lt_of_cell? _ _ t4)).trans t4
  have c5 := (B0.cell (World.block_lt_of_cell? _ _ hw)).trans hw
  have s2 : ((w.alloc (.cells #[.string l1, .string l2] 84)).alloc (.cells #[.string r1, .string r2] 84)).heap.size = w.heap.size + 1 + 1 := by simp
  have R5 : W0.heap[w.heap.size + 1 + 1]? = some (.cells #[.string ⟨#[]⟩, .string ⟨#[]⟩] 84 (0, 0)) := by rw [HW0, ← s2]; exact heap_alloc_new _ _
  have S4 : Hid (∀ W, Below W0.heap.size W0 W → Below W0.heap.size W0 W ∧ W.cell? ⟨w.heap.size, 0, none⟩ = some (.string l1) ∧ W.cell? ⟨w.heap.size, 1, none⟩ = some (.string l2) ∧ W.cell? ⟨w.heap.size + 1, 0, none⟩ = some (.string r1) ∧ W.cell? ⟨w.heap.size + 1, 1, none⟩ = some (.string r2) ∧ W.cell? ⟨wb, 0, none⟩ = some (.int .i64 wd)) := fun W h => ⟨h, (h.cell (World.block_lt_of_cell? _ _ c1)).trans c1, (h.cell (World.block_lt_of_cell? _ _ c2)).trans c2, (h.cell (World.block_lt_of_cell? _ _ c3)).trans c3, (h.cell (World.block_lt_of_cell? _ _ c4)).trans c4, (h.cell (World.block_lt_of_cell? _ _ c5)).trans c5⟩
  have HZ : Hid (Below W0.heap.size W0 W0) := Below.refl _ _
  have H0 : Hid (Below w.heap.size w W0 ∧ Tab W0 ∧ W0.heap[w.heap.size + 1 + 1]? = some (.cells #[.string ⟨#[]⟩, .string ⟨#[]⟩] 84 (0, 0))) := ⟨B0, hT.down B0, R5⟩
  have N2 : Hid (∀ W, Below W0.heap.size W0 W → Calls _ _ _ _ _) := fun W h => pNode wd l2 r2 (by omega) W (H0.out.2.1.down h)
  have N1 : Hid (∀ W, Below W0.heap.size W0 W → Calls _ _ _ _ _) := fun W h => pNode wd l1 r1 (by omega) W (H0.out.2.1.down h)
  obtain ⟨n2, HN2⟩ : ∃ x, Hid (NF wd l2 r2 = x) := ⟨_, rfl⟩
  obtain ⟨n1, HN1⟩ : ∃ x, Hid (NF wd l1 r1 = x) := ⟨_, rfl⟩
  rw [HN2.out] at N2 ⊢
  rw [HN1.out] at N1 ⊢
  obtain ⟨o1, HO1⟩ : ∃ x, Hid ((if r1 = ⟨#[]⟩ then l1 else n1) = x) := ⟨_, rfl⟩
  rw [HO1.out]
  clear t1 t2 t3 t4 b12 s2 R5 B0 hT hw
  go_enter Tryd.func81, Tryd.ntmps81
  go_upto_region 1 with fail
  rw [← HW0]
  clear HW0
  go_cut [6] from 7 to 15 (fun c wx => ∃ g, c = .pointer (some ⟨g, 0, none⟩) ∧ Hid (W0.heap.size ≤ g ∧ Below W0.heap.size W0 wx ∧ wx.heap[g]? = some (.cells #[.string l1, .string n2] 84 (0, 0))))
  case first =>
    have HZ1 : Hid (Below W0.heap.size W0 W0.drew) := below_dN HZ.out 1
    have HZA : Hid (Below W0.heap.size W0 (W0.drew.alloc (.cells #[.string ⟨#[]⟩, .string ⟨#[]⟩] 84))) := HZ1.out.alloc (by simp) _
    have RZA : Hid ((W0.drew.alloc (.cells #[.string ⟨#[]⟩, .string ⟨#[]⟩] 84)).heap[W0.heap.size]? = some (.cells #[.string ⟨#[]⟩, .string ⟨#[]⟩] 84 (0, 0))) := heap_alloc_new W0.drew _
    have CA : Hid (Calls _ _ _ _ _) := N2.out W0.drew HZ1.out
    have CB : Hid (Calls _ _ _ _ _) := N2.out _ HZA.out
    have HZB : Hid (Below W0.heap.size W0 (W0.alloc (.cells #[.string ⟨#[]⟩, .string ⟨#[]⟩] 84))) := HZ.out.alloc (Nat.le_refl _) _
    obtain ⟨_, y1, y2, y3, y4, y5⟩ := S4.out _ HZB.out
    go_region_held3 (fun W => Below W0.heap.size W0 W ∧ W.cell? ⟨w.heap.size, 0, none⟩ = some (.string l1) ∧ W.cell? ⟨w.heap.size, 1, none⟩ = some (.string l2) ∧ W.cell? ⟨w.heap.size + 1, 0, none⟩ = some (.string r1) ∧ W.cell? ⟨w.heap.size + 1, 1, none⟩ = some (.string r2) ∧ W.cell? ⟨wb, 0, none⟩ = some (.int .i64 wd)) (first | exact S4.out _ HZ1.out | exact S4.out _ HZA.out | exact S4.out _ G.out | exact S4.out _ (G.out.alloc G.out.size _) | exact S4.out _ ((G.out.setCell (p := ⟨W0.heap.size, 0, none⟩) (Nat.le_refl _) _).setCell (p := ⟨W0.heap.size, 1, none⟩) (Nat.le_refl _) _)) (first
      | (go_at_call 40; refine CA.out.mono ?_; rintro _ w' ⟨rfl, hb'⟩; have G : Hid (Below W0.heap.size W0 w') := over HZ1.out hb'; clear hb')
      | (go_at_call 40; refine CB.out.mono ?_; rintro _ w' ⟨rfl, hb'⟩; have G : Hid (Below W0.heap.size W0 w') := over HZA.out hb'; have RB : w'.heap[W0.heap.size]? = some (.cells #[.string ⟨#[]⟩, .string ⟨#[]⟩] 84 (0, 0)) := (hb'.block _ (Array.getElem?_eq_some_iff.1 RZA.out).1).trans RZA.out; have f0 := frozen_of_row _ _ 0 _ _ RB; have f1 := frozen_of_row _ _ 1 _ _ RB; have d0 : w'.cell? ⟨W0.heap.size, 0, none⟩ = some (.string ⟨#[]⟩) := cell_of_row _ _ 0 _ _ _ RB; have d1 : w'.cell? ⟨W0.heap.size, 1, none⟩ = some (.string ⟨#[]⟩) := cell_of_row _ _ 1 _ _ _ RB; have RBH : Hid _ := RB; clear hb' RB))
    all_goals (go_wp2; go_meet; first | exact ⟨w'.heap.size, rfl, G.out.size, G.out.alloc G.out.size _, heap_alloc_new _ _⟩ | exact ⟨W0.heap.size, rfl, Nat.le_refl _, (G.out.setCell (p := ⟨W0.heap.size, 0, none⟩) (Nat.le_refl _) _).setCell (p := ⟨W0.heap.size, 1, none⟩) (Nat.le_refl _) _, set_two RBH.out _ _⟩)
  case rest =>
    obtain ⟨g, rfl, HG⟩ := hcut
    obtain ⟨_, x1, x2, x3, x4, x5⟩ := S4.out _ HG.out.2.1
    have hrow := HG.out.2.2
    have hres : wc.heap[w.heap.size + 1 + 1]? = some (.cells #[.string ⟨#[]⟩, .string ⟨#[]⟩] 84 (0, 0)) := (HG.out.2.1.block _ (Array.getElem?_eq_some_iff.1 H0.out.2.2).1).trans H0.out.2.2
    have hlt : w.heap.size + 1 + 1 < W0.heap.size := (Array.getElem?_eq_some_iff.1 H0.out.2.2).1
    have hne : w.heap.size + 1 + 1 ≠ g := by have := HG.out.1; omega
    have hle : w.heap.size ≤ w.heap.size + 1 + 1 := by omega
    have BW : Hid (Below w.heap.size w wc) := over H0.out.1 HG.out.2.1
    clear c1 c2 c3 c4 c5
    by_cases hr : r1 = ⟨#[]⟩
    · have HE : Hid (l1 = o1) := by rw [← HO1.out, if_pos hr]; exact rfl
      subst hr
      have ga : wc.cell? ⟨g, 0, none⟩ = some (.string l1) := cell_of_row _ _ 0 _ _ _ hrow
      have gb : wc.cell? ⟨g, 1, none⟩ = some (.string n2) := cell_of_row _ _ 1 _ _ _ hrow
      have f0 := frozen_of_row _ _ 0 _ _ hres
      have f1 := frozen_of_row _ _ 1 _ _ hres
      have d0 : wc.cell? ⟨w.heap.size + 1 + 1, 0, none⟩ = some (.string ⟨#[]⟩) := cell_of_row _ _ 0 _ _ _ hres
      have d1 : wc.cell? ⟨w.heap.size + 1 + 1, 1, none⟩ = some (.string ⟨#[]⟩) := cell_of_row _ _ 1 _ _ _ hres
      have RR : Hid _ := hres
      clear hrow hres
      go_wp2
      refine bodyPost_ret (by simp [results, Tryd.results81, go_sem, cell_of_row _ _ 0 _ _ _ (set_two RR.out _ _), cell_of_row _ _ 1 _ _ _ (set_two RR.out _ _)]; try rfl) rfl ?_
      exact ⟨by rw [HE.out], (BW.out.setCell (p := ⟨w.heap.size + 1 + 1, 0, none⟩) hle _).setCell (p := ⟨w.heap.size + 1 + 1, 1, none⟩) hle _⟩
    · have g0 : ¬ r1.toList = [] := by
        rw [ByteArray.toList_eq]
        intro h
        exact hr (ByteArray.ext (Array.toList_inj.1 h))
      have gi : r1.toList.isEmpty = false := by simpa using g0
      have gb : (r1.toList == []) = false := by rw [beq_eq_false_iff_ne]; exact g0
      have NC : Hid (Calls _ _ _ _ _) := N1.out wc HG.out.2.1
      have RR : Hid (wc.heap[g]? = some (.cells #[.string l1, .string n2] 84 (0, 0)) ∧ wc.heap[w.heap.size + 1 + 1]? = some (.cells #[.string ⟨#[]⟩, .string ⟨#[]⟩] 84 (0, 0))) := ⟨hrow, hres⟩
      have HE : Hid (n1 = o1) := by rw [← HO1.out, if_neg hr]; exact rfl
      clear hrow hres g0 hr
      go_wp2_with fail
      refine NC.out.mono ?_
      rintro e w3 ⟨rfl, hb3⟩
      have q1 : w3.heap[g]? = some (.cells #[.string l1, .string n2] 84 (0, 0)) := (hb3.block _ (Array.getElem?_eq_some_iff.1 RR.out.1).1).trans RR.out.1
      have q2 : w3.heap[w.heap.size + 1 + 1]? = some (.cells #[.string ⟨#[]⟩, .string ⟨#[]⟩] 84 (0, 0)) := (hb3.block _ (Array.getElem?_eq_some_iff.1 RR.out.2).1).trans RR.out.2
      have B3 : Hid (Below w.heap.size w w3) := over BW.out hb3
      have g3 := frozen_of_row _ _ 0 _ _ q1
      have g4 : w3.cell? ⟨g, 0, none⟩ = some (.string l1) := cell_of_row _ _ 0 _ _ _ q1
      have hgw : w.heap.size ≤ g := by have := HG.out.1; omega
      obtain ⟨w4, HW4⟩ : ∃ x, x = w3.setCell ⟨g, 0, none⟩ (.string n1) := ⟨_, rfl⟩
      have r1' : w4.heap[g]? = some (.cells #[.string n1, .string n2] 84 (0, 0)) := by rw [HW4]; exact heap_setCell_same _ _ 0 _ _ _ q1
      have r2' : w4.heap[w.heap.size + 1 + 1]? = some (.cells #[.string ⟨#[]⟩, .string ⟨#[]⟩] 84 (0, 0)) := by rw [HW4]; exact ((Kp.setCell (A := fun b => b = g) w3 g 0 (.string n1) rfl).block _ (Array.getElem?_eq_some_iff.1 q2).1 (fun e => hne e)).trans q2
      have B4 : Hid (Below w.heap.size w w4) := by rw [HW4]; exact B3.out.setCell (p := ⟨g, 0, none⟩) hgw _
      clear hb3 q1 q2
      go_upto_region 4 with fail
      rw [← HW4]
      have ga : w4.cell? ⟨g, 0, none⟩ = some (.string n1) := cell_of_row _ _ 0 _ _ _ r1'
      have gb' : w4.cell? ⟨g, 1, none⟩ = some (.string n2) := cell_of_row _ _ 1 _ _ _ r1'
      have f0 := frozen_of_row _ _ 0 _ _ r2'
      have f1 := frozen_of_row _ _ 1 _ _ r2'
      have d0 : w4.cell? ⟨w.heap.size + 1 + 1, 0, none⟩ = some (.string ⟨#[]⟩) := cell_of_row _ _ 0 _ _ _ r2'
      have d1 : w4.cell? ⟨w.heap.size + 1 + 1, 1, none⟩ = some (.string ⟨#[]⟩) := cell_of_row _ _ 1 _ _ _ r2'
      have R2 : Hid _ := r2'
      clear r1' r2' HW4 g3 g4
      go_wp2
      refine bodyPost_ret (by simp [results, Tryd.results81, go_sem, cell_of_row _ _ 0 _ _ _ (set_two R2.out _ _), cell_of_row _ _ 1 _ _ _ (set_two R2.out _ _)]; try rfl) rfl ?_
      exact ⟨by rw [HE.out], (B4.out.setCell (p := ⟨w.heap.size + 1 + 1, 0, none⟩) hle _).setCell (p := ⟨w.heap.size + 1 + 1, 1, none⟩) hle _⟩
end Go.Proofs.YthmfljjpanghgaaDoor.qt

namespace Go.Proofs.YthmfljjpanghgaaDoor.qu
open Go.RowKit Go.PlainAid
open Go.Proofs.YthmfljjpanghgaaDoor.pl Go.Proofs.YthmfljjpanghgaaDoor.pi Go.Proofs.YthmfljjpanghgaaDoor.pj Go.Proofs.YthmfljjpanghgaaDoor.rf Go.Proofs.YthmfljjpanghgaaDoor.ca Go.Proofs.YthmfljjpanghgaaDoor.cb Go.Proofs.YthmfljjpanghgaaDoor.cp Go.Proofs.YthmfljjpanghgaaDoor.ga Go.Proofs.YthmfljjpanghgaaDoor.aa Go.Proofs.YthmfljjpanghgaaDoor.ka Go.Proofs.YthmfljjpanghgaaDoor.kb Go.Proofs.YthmfljjpanghgaaDoor.kc Go.Proofs.YthmfljjpanghgaaDoor.kp Go.Proofs.YthmfljjpanghgaaDoor.lk Go.Proofs.YthmfljjpanghgaaDoor.qa Go.Proofs.YthmfljjpanghgaaDoor.qb Go.Proofs.YthmfljjpanghgaaDoor.wt Go.Proofs.YthmfljjpanghgaaDoor.wb Go.Proofs.YthmfljjpanghgaaDoor.qr Go.Proofs.YthmfljjpanghgaaDoor.qs Go.Proofs.YthmfljjpanghgaaDoor.qt
set_option linter.unusedVariables false
-- a consistency proof's walk: what it does, what it takes
theorem wideC {m a b : Nat} (hab : a < b) (h : 2 ≤ lkC m a b) : 2 ≤ b - a := by
  unfold lkC at h
  split at h
  · omega
  · split at h
    · omega
    · omega
theorem fourC (m a b : Nat) : lkC m a b ≤ 3 := by
  unfold lkC
  split
  · omega
  · split
    · omega
    · split <;> omega
theorem go_stateG (wd : Int) (m : Nat) (old : ByteArray) (n : Nat) : ∀ a b p, b - a = n → a < b → (go (WG wd m old) p a b).2 = p.drop (WL (lkC m) a b).length := by
  induction n using Nat.strongRecOn with
  | ind n ih =>
    intro a b p hn hab
    have h3 := fourC m a b
    rcases (show lkC m a b = 0 ∨ lkC m a b = 1 ∨ lkC m a b = 2 ∨ lkC m a b = 3 by omega) with h | h | h | h
    · have e : (WG wd m old).lk p a b = (0, p) := by show (lkC m a b, p) = _; rw [h]
      rw [go_stop (by rw [e]; show 0 < 2; omega), e, WL_pass h]
      rfl
    · have e : (WG wd m old).lk p a b = (1, p) := by show (lkC m a b, p) = _; rw [h]
      rw [go_stop (by rw [e]; show 1 < 2; omega), e, WL_take h]
      show (if m ≤ a then _ else _ : (ByteArray × ByteArray) × List ByteArray).2 = _
      split <;> rfl
    · have h2 := wideC (m := m) hab (by omega)
      have hh := half_lt h2
      have e : (WG wd m old).lk p a b = (2, p) := by show (lkC m a b, p) = _; rw [h]
      rw [go_left (by rw [e]) h2, e]
      simp only
      rw [ih (half (b - a)) (by omega) a (a + half (b - a)) p (by omega) (by omega), ih (b - a - half (b - a)) (by omega) (a + half (b - a)) b _ (by omega) (by omega), WL_left h h2, List.length_append, List.drop_drop]
    · have h2 := wideC (m := m) hab (by omega)
      have hh := half_lt h2
      have e : (WG wd m old).lk p a b = (3, p) := by show (lkC m a b, p) = _; rw [h]
      rw [go_right (by rw [e]; exact Nat.le_refl _) h2, e]
      simp only
      rw [ih (b - a - half (b - a)) (by omega) (a + half (b - a)) b p (by omega) (by omega), ih (half (b - a)) (by omega) a (a + half (b - a)) _ (by omega) (by omega), WL_right (by omega) h2, List.length_append, List.drop_drop]
def PG (wd : Int) (m : Nat) (p : List ByteArray) (a b : Nat) : Prop := a < b ∧ b ≤ 4611686018427387904 ∧ (WL (lkC m) a b).length ≤ p.length ∧ Wide wd p
def QG (wd : Int) (v : ByteArray × ByteArray) : Prop := v.2.size = wid wd ∧ (v.1.size = wid wd ∨ v.1 = ⟨#[]⟩)
theorem QG.le {wd : Int} {v : ByteArray × ByteArray} (h : QG wd v) : v.1.size ≤ 32 ∧ v.2.size ≤ 32 := by
  have h32 := qb.wid_le wd
  obtain ⟨h1, h2 | h2⟩ := h
  · omega
  · rw [h2]; exact ⟨by show 0 ≤ 32; omega, by omega⟩
section
variable {base pb ob fb mb wb sob smb : Nat} {wd : Int} {m : Nat} {old : ByteArray}
theorem KG (hm : 1 ≤ m) (hm2 : m ≤ 4611686018427387904) (ho : old.size = wid wd) : Wk (fun b => b = pb) (SG base pb ob fb mb wb sob smb wd m old) e2 (WG wd m old) (PG wd m) (QG wd) 122 80 81 #[.pointer (some ⟨smb, 0, none⟩), .pointer (some ⟨sob, 0, none⟩)] #[.pointer (some ⟨ob, 0, none⟩), .pointer (some ⟨fb, 0, none⟩), .pointer (some ⟨mb, 0, none⟩)] #[.pointer (some ⟨wb, 0, none⟩)] where
  lent := fun args w => by simp [go_sem]
  hent := fun args w => by simp [go_sem]
  jent := fun args w => by simp [go_sem]
  later := fun h b => h.later b
  fl := fun h b hb => by subst hb; exact h.pp.lt
  look := fun x a b w hab hb hP hS => (lookC sob smb m a b w hm hm2 hab hb hS.sh.1 hS.sh.2).mono fun e w' hh => ⟨hh.1, hS.later hh.2, Kp.of_below hh.2⟩
  have' := fun x a b w hab hb hP h hS => by
    obtain ⟨_, _, q, _⟩ := hP
    exact haveG x a b (lkC m a b) h w hS (fun e => by rw [WL_take e] at q; exact q)
  join := fun l r x w hl hr hS => joinG wd wb l.1 l.2 r.1 r.2 hl.le.1 hl.le.2 hr.le.1 hr.le.2 w hS.bw hS.tab
  qh := fun {x a b} hab hP h => by
    obtain ⟨_, _, q, qw⟩ := hP
    have h' : lkC m a b < 2 := h
    rcases (show lkC m a b = 0 ∨ lkC m a b = 1 by omega) with e | e
    · have z : (WG wd m old).lk x a b = (0, x) := by show (lkC m a b, x) = _; rw [e]
      rw [z]
      exact ⟨ho, .inl ho⟩
    · have z : (WG wd m old).lk x a b = (1, x) := by show (lkC m a b, x) = _; rw [e]
      rw [z]
      rw [WL_take e] at q
      have hz := qw.head q
      show QG wd (if m ≤ a then _ else _ : (ByteArray × ByteArray) × List ByteArray).1
      split
      · exact ⟨hz, .inr rfl⟩
      · exact ⟨hz, .inl hz⟩
  qj := fun {l r} hl hr => by
    refine ⟨NF_size _ _ _, ?_⟩
    show (if r.1 = ⟨#[]⟩ then l.1 else NF wd l.1 r.1).size = wid wd ∨ (if r.1 = ⟨#[]⟩ then l.1 else NF wd l.1 r.1) = ⟨#[]⟩
    split
    · exact hl.2
    · exact .inl (NF_size _ _ _)
  wide := fun hab _ h => wideC hab h
  four := fun _ _ => fourC _ _ _
  left := fun {x a b} hab hP h => by
    obtain ⟨_, hb, q, qw⟩ := hP
    have h' : lkC m a b = 2 := h
    have h2 := wideC (m := m) hab (by omega)
    have hh := half_lt h2
    have e : (WG wd m old).lk x a b = (2, x) := by show (lkC m a b, x) = _; rw [h']
    rw [WL_left h' h2, List.length_append] at q
    rw [e]
    simp only
    rw [go_stateG wd m old (half (b - a)) a (a + half (b - a)) x (by omega) (by omega)]
    exact ⟨⟨by omega, by omega, by omega, qw⟩, by omega, hb, by rw [List.length_drop]; omega, qw.drop _⟩
  right := fun {x a b} hab hP h => by
    obtain ⟨_, hb, q, qw⟩ := hP
    have h' : lkC m a b = 3 := h
    have h2 := wideC (m := m) hab (by omega)
    have hh := half_lt h2
    have e : (WG wd m old).lk x a b = (3, x) := by show (lkC m a b, x) = _; rw [h']
    rw [WL_right (lk := lkC m) (by omega) h2, List.length_append] at q
    rw [e]
    simp only
    rw [go_stateG wd m old (b - a - half (b - a)) (a + half (b - a)) b x (by omega) (by omega)]
    exact ⟨⟨by omega, hb, by omega, qw⟩, by omega, by omega, by rw [List.length_drop]; omega, qw.drop _⟩
end
end Go.Proofs.YthmfljjpanghgaaDoor.qu

namespace Go.Proofs.YthmfljjpanghgaaDoor.qv
open Go.RowKit Go.PlainAid
open Go.Proofs.YthmfljjpanghgaaDoor.pl Go.Proofs.YthmfljjpanghgaaDoor.pi Go.Proofs.YthmfljjpanghgaaDoor.pj Go.Proofs.YthmfljjpanghgaaDoor.rf Go.Proofs.YthmfljjpanghgaaDoor.ca Go.Proofs.YthmfljjpanghgaaDoor.cb Go.Proofs.YthmfljjpanghgaaDoor.cp Go.Proofs.YthmfljjpanghgaaDoor.ga Go.Proofs.YthmfljjpanghgaaDoor.aa Go.Proofs.YthmfljjpanghgaaDoor.ka Go.Proofs.YthmfljjpanghgaaDoor.kb Go.Proofs.YthmfljjpanghgaaDoor.kc Go.Proofs.YthmfljjpanghgaaDoor.kp Go.Proofs.YthmfljjpanghgaaDoor.lk Go.Proofs.YthmfljjpanghgaaDoor.mi Go.Proofs.YthmfljjpanghgaaDoor.lm Go.Proofs.YthmfljjpanghgaaDoor.co Go.Proofs.YthmfljjpanghgaaDoor.cn Go.Proofs.YthmfljjpanghgaaDoor.dc Go.Proofs.YthmfljjpanghgaaDoor.qa Go.Proofs.YthmfljjpanghgaaDoor.qb Go.Proofs.YthmfljjpanghgaaDoor.qc Go.Proofs.YthmfljjpanghgaaDoor.wb Go.Proofs.YthmfljjpanghgaaDoor.qr Go.Proofs.YthmfljjpanghgaaDoor.qs Go.Proofs.YthmfljjpanghgaaDoor.qt Go.Proofs.YthmfljjpanghgaaDoor.qu
open Go.Proofs.YthmfljjpanghgaaDoor.qd (reads_nilI)
set_option linter.unusedVariables false
set_option linter.unusedSimpArgs false
-- the two roots
def gw2 (wd : Int) (m n : Nat) (old : ByteArray) (p : List ByteArray) : ByteArray × ByteArray := (go (WG wd m old) p 0 n).1
set_option maxRecDepth 100000 in
set_option maxHeartbeats 6400000 in
theorem growC (wd : Int) (m n : Nat) (old : ByteArray) (base pb : Nat) (p : List ByteArray) (w : World) (hm : 1 ≤ m) (hmn : m ≤ n) (hn : n ≤ 4611686018427387904) (ho : old.size = wid wd) (hp : Pile base pb p w) (hT : Tab w) (hb1 : 2 ≤ base) (hb2 : base ≤ w.heap.size) (hl : (WL (lkC m) 0 n).length ≤ p.length) (hw : Wide wd p) :
    Calls Tryd.prog 51 #[.int .i64 wd, .int .i64 m, .int .i64 n, .string old, .func (.func 52) #[.pointer (some ⟨pb, 0, none⟩)] #[]] w fun e w' => e = .returned (e2 (gw2 wd m n old p)) ∧ QG wd (gw2 wd m n old p) ∧ Below base w w' := by
  -- the boxes: the width, m, the old root, the proof, the result; then the shape's two
  obtain ⟨w1, e1⟩ : ∃ x, x = w.alloc (.cells #[.int .i64 wd] 3) := ⟨_, rfl⟩
  obtain ⟨w2, e2'⟩ : ∃ x, x = w1.alloc (.cells #[.int .i64 m] 3) := ⟨_, rfl⟩
  obtain ⟨w3, e3⟩ : ∃ x, x = w2.alloc (.cells #[.string old] 9) := ⟨_, rfl⟩
  obtain ⟨w4, e4⟩ : ∃ x, x = w3.alloc (.cells #[.func (.func 52) #[.pointer (some ⟨pb, 0, none⟩)] #[]] 64) := ⟨_, rfl⟩
  obtain ⟨w5, e5⟩ : ∃ x, x = w4.alloc (.cells #[.string ⟨#[]⟩, .string ⟨#[]⟩] 84) := ⟨_, rfl⟩
  obtain ⟨w6, e6⟩ : ∃ x, x = w5.alloc (.cells #[.int .i64 m] 3) := ⟨_, rfl⟩
  obtain ⟨w7, e7⟩ : ∃ x, x = w6.alloc (.cells #[.int .i64 0, .int .i64 m] 114) := ⟨_, rfl⟩
  have b1 : Below w.heap.size w w1 := by rw [e1]; exact (Below.refl _ _).alloc (Nat.le_refl _) _
  have b2 : Below w1.heap.size w1 w2 := by rw [e2']; exact (Below.refl _ _).alloc (Nat.le_refl _) _
  have b3 : Below w2.heap.size w2 w3 := by rw [e3]; exact (Below.refl _ _).alloc (Nat.le_refl _) _
  have b4 : Below w3.heap.size w3 w4 := by rw [e4]; exact (Below.refl _ _).alloc (Nat.le_refl _) _
  have b5 : Below w4.heap.size w4 w5 := by rw [e5]; exact (Below.refl _ _).alloc (Nat.le_refl _) _
  have b6 : Below w5.heap.size w5 w6 := by rw [e6]; exact (Below.refl _ _).alloc (Nat.le_refl _) _
  have b7 : Below w6.heap.size w6 w7 := by rw [e7]; exact (Below.refl _ _).alloc (Nat.le_refl _) _
  have s1 : w1.heap.size = w.heap.size + 1 := by rw [e1]; simp
  have s2 : w2.heap.size = w.heap.size + 2 := by rw [e2']; simp [s1]
  have s3 : w3.heap.size = w.heap.size + 3 := by rw [e3]; simp [s2]
  have s4 : w4.heap.size = w.heap.size + 4 := by rw [e4]; simp [s3]
  have s5 : w5.heap.size = w.heap.size + 5 := by rw [e5]; simp [s4]
  have s6 : w6.heap.size = w.heap.size + 6 := by rw [e6]; simp [s5]
  have b67 : Below w5.heap.size w5 w7 := over b6 b7
  have b57 : Below w4.heap.size w4 w7 := over b5 b67
  have b47 : Below w3.heap.size w3 w7 := over b4 b57
  have b37 : Below w2.heap.size w2 w7 := over b3 b47
  have b27 : Below w1.heap.size w1 w7 := over b2 b37
  have b17 : Below w.heap.size w w7 := over b1 b27
  have c1 : w1.cell? ⟨w.heap.size, 0, none⟩ = some (.int .i64 wd) := by rw [e1, World.cell?_alloc_at _ _ _ _ rfl]; rfl
  have c2 : w2.cell? ⟨w.heap.size + 1, 0, none⟩ = some (.int .i64 m) := by rw [e2', World.cell?_alloc_at _ _ _ _ s1.symm]; rfl
  have c3 : w3.cell? ⟨w.heap.size + 2, 0, none⟩ = some (.string old) := by rw [e3, World.cell?_alloc_at _ _ _ _ s2.symm]; rfl
  have c4 : w4.cell? ⟨w.heap.size + 3, 0, none⟩ = some (.func (.func 52) #[.pointer (some ⟨pb, 0, none⟩)] #[]) := by rw [e4, World.cell?_alloc_at _ _ _ _ s3.symm]; rfl
  have r5 : w5.heap[w.heap.size + 4]? = some (.cells #[.string ⟨#[]⟩, .string ⟨#[]⟩] 84 (0, 0)) := by rw [e5, ← s4]; exact heap_alloc_new _ _
  have c6 : w6.cell? ⟨w.heap.size + 5, 0, none⟩ = some (.int .i64 m) := by rw [e6, World.cell?_alloc_at _ _ _ _ s5.symm]; rfl
  have c7 : w7.cell? ⟨w.heap.size + 6, 0, none⟩ = some (.int .i64 0) := by rw [e7, World.cell?_alloc_at _ _ _ _ s6.symm]; rfl
  have c8 : w7.cell? ⟨w.heap.size + 6, 1, none⟩ = some (.int .i64 m) := by rw [e7, World.cell?_alloc_at _ _ _ _ s6.symm]; rfl
  have lp := hp.lt
  have kk : Kp no w w7 := Kp.of_below b17
  have HSG : Hid (SG base pb (w.heap.size + 2) (w.heap.size + 3) (w.heap.size + 1) w.heap.size (w.heap.size + 6) (w.heap.size + 5) wd m old p w7) :=
    ⟨⟨⟨c7, c8⟩, (b7.cell (World.block_lt_of_cell? _ _ c6)).trans c6⟩, hp.keep kk (fun _ e => e.elim) (fun e => e), (b47.cell (World.block_lt_of_cell? _ _ c3)).trans c3, (b57.cell (World.block_lt_of_cell? _ _ c4)).trans c4, (b37.cell (World.block_lt_of_cell? _ _ c2)).trans c2, (b27.cell (World.block_lt_of_cell? _ _ c1)).trans c1, hT.down b17, ⟨hb1, Nat.le_trans hb2 b17.size⟩, by omega⟩
  have WC : Hid (Calls _ _ _ _ _) := wb.walkC (KG hm (by omega) ho) (D := DG base pb (w.heap.size + 2) (w.heap.size + 3) (w.heap.size + 1) w.heap.size (w.heap.size + 6) (w.heap.size + 5)) (fun h => h.dl) (fun h k hg => h.keep k hg) n 0 n p w7 rfl (by omega) hn ⟨by omega, hn, hl, hw⟩ HSG.out
  have CC : Hid (∀ w, Calls _ _ _ _ _) := fun w => consistencyC (m : Int) w
  have H5 : Hid (w5.heap.size = w.heap.size + 5 ∧ Below w.heap.size w w7 ∧ w7.heap[w.heap.size + 4]? = some (.cells #[.string ⟨#[]⟩, .string ⟨#[]⟩] 84 (0, 0)) ∧ w.heap.size + 4 < w7.heap.size) := ⟨s5, b17, (b67.block _ (Array.getElem?_eq_some_iff.1 r5).1).trans r5, by have := b67.size; omega⟩
  have HPN : Hid (base ≤ pb ∧ pb < w.heap.size ∧ base ≤ w.heap.size) := ⟨hp.new, lp, hb2⟩
  have cm : w5.cell? ⟨w.heap.size + 1, 0, none⟩ = some (.int .i64 m) := by
    have b35 : Below w2.heap.size w2 w5 := over b3 (over b4 b5)
    exact (b35.cell (World.block_lt_of_cell? _ _ c2)).trans c2
  unfold gw2
  obtain ⟨G, HG⟩ : ∃ G, Hid (go (WG wd m old) p 0 n = G) := ⟨_, rfl⟩
  rw [HG.out] at WC ⊢
  obtain ⟨⟨g1, g2⟩, g3⟩ := G
  unfold e2 at WC ⊢
  simp only at WC ⊢
  clear hp hT hb1 hb2 hl hw c1 c2 c3 c4 c6 c7 c8 r5 b2 b3 b4 b5 b6 b7 b67 b57 b47 b37 b27 b17 b1 s6 kk lp HSG
  go_enter Tryd.func51, Tryd.ntmps51
  go_upto_region 3 with fail
  rw [← e1, ← e2', ← e3, ← e4, ← e5]
  clear e1 e2' e3 e4 e5
  go_wp2_with fail
  refine (CC.out _).mono ?_
  rintro e w8 ⟨rfl, hw8⟩
  rw [← e6, ← e7] at hw8
  subst hw8
  rw [H5.out.1]
  clear e6 e7
  go_wp2_with fail
  refine WC.out.mono ?_
  rintro e w9 ⟨rfl, hs9, hk9, hq9⟩
  have r9 : w9.heap[w.heap.size + 4]? = some (.cells #[.string ⟨#[]⟩, .string ⟨#[]⟩] 84 (0, 0)) := (hk9.block _ H5.out.2.2.2 (fun e => by have := HPN.out; omega)).trans H5.out.2.2.1
  have K9 : Hid (QG wd (g1, g2) ∧ Below base w w9) := ⟨hq9, (H5.out.2.1.mono HPN.out.2.2).trans (hk9.below (fun b e => by subst e; exact HPN.out.1) (Nat.le_trans HPN.out.2.2 H5.out.2.1.size))⟩
  have f0 := frozen_of_row _ _ 0 _ _ r9
  have f1 := frozen_of_row _ _ 1 _ _ r9
  have d0 : w9.cell? ⟨w.heap.size + 4, 0, none⟩ = some (.string ⟨#[]⟩) := cell_of_row _ _ 0 _ _ _ r9
  have d1 : w9.cell? ⟨w.heap.size + 4, 1, none⟩ = some (.string ⟨#[]⟩) := cell_of_row _ _ 1 _ _ _ r9
  have RR : Hid (w9.heap[w.heap.size + 4]? = some (.cells #[.string ⟨#[]⟩, .string ⟨#[]⟩] 84 (0, 0))) := r9
  have hsz : base ≤ w.heap.size + 4 := by have := HPN.out; omega
  clear hs9 hk9 hq9 r9
  go_wp2
  refine bodyPost_ret (by simp [results, Tryd.results51, go_sem, cell_of_row _ _ 0 _ _ _ (set_two RR.out _ _), cell_of_row _ _ 1 _ _ _ (set_two RR.out _ _)]; try rfl) rfl ?_
  exact ⟨rfl, K9.out.1, (K9.out.2.setCell (p := ⟨w.heap.size + 4, 0, none⟩) hsz _).setCell (p := ⟨w.heap.size + 4, 1, none⟩) hsz _⟩
def begA (wd : Int) (n : Int) (old root : ByteArray) : Int := if n = 0 ∧ root ≠ old then 90 else if EF wd = old then 0 else 90
theorem beginC (wd n : Int) (old root : ByteArray) (w : World) (hT : Tab w) : Calls Tryd.prog 50 #[.int .i64 wd, .int .i64 n, .string old, .string root] w fun e w' => e = .returned (.int .i64 (begA wd n old root)) ∧ Below w.heap.size w w' := by
  have CE : Hid (Calls _ _ _ _ _) := pEmpty wd w hT
  have CM : Hid (∀ w, Calls _ _ _ _ _) := fun w => matchC (EF wd) old w
  have HB : Hid (Below w.heap.size w w) := Below.refl _ _
  unfold begA
  generalize EF wd = E at *
  obtain ⟨y, HY⟩ : ∃ y : Int, Hid ((if E = old then 0 else 90) = y) := ⟨_, rfl⟩
  rw [HY.out] at CM ⊢
  clear hT HY
  by_cases h0 : n = 0
  · subst h0
    by_cases hr : root = old
    · subst hr
      rw [if_neg (fun h => h.2 rfl)]
      have tt : (root.toList == root.toList) = true := beq_self_eq_true _
      go_enter Tryd.func50, Tryd.ntmps50
      go_wp2_with (first | (go_at_call 38; refine CE.out.mono ?_; rintro _ w1 ⟨rfl, b1⟩; have B1 : Hid (Below w.heap.size w w1) := b1; clear b1) | (go_at_call 45; refine (CM.out _).mono ?_; rintro _ wz ⟨rfl, hwz⟩; rw [hwz]; clear hwz) | go_in)
      go_ret
      exact ⟨rfl, B1.out⟩
    · rw [if_pos ⟨rfl, hr⟩]
      have tt : (root.toList == old.toList) = false := by rw [beqL]; exact decide_eq_false hr
      go_enter Tryd.func50, Tryd.ntmps50
      go_wp2
      go_ret
      exact ⟨rfl, HB.out⟩
  · rw [if_neg (fun h => h0 h.1)]
    have q0 : (n == 0) = false := by rw [beq_eq_false_iff_ne]; exact h0
    clear h0
    go_enter Tryd.func50, Tryd.ntmps50
    go_wp2_with (first | (go_at_call 38; refine CE.out.mono ?_; rintro _ w1 ⟨rfl, b1⟩; have B1 : Hid (Below w.heap.size w w1) := b1; clear b1) | (go_at_call 45; refine (CM.out _).mono ?_; rintro _ wz ⟨rfl, hwz⟩; rw [hwz]; clear hwz) | go_in)
    go_ret
    exact ⟨rfl, B1.out⟩
end Go.Proofs.YthmfljjpanghgaaDoor.qv

namespace Go.Proofs.YthmfljjpanghgaaDoor.qw
open Go.RowKit Go.PlainAid
open Go.Proofs.YthmfljjpanghgaaDoor.pl Go.Proofs.YthmfljjpanghgaaDoor.pi Go.Proofs.YthmfljjpanghgaaDoor.pj Go.Proofs.YthmfljjpanghgaaDoor.rf Go.Proofs.YthmfljjpanghgaaDoor.ca Go.Proofs.YthmfljjpanghgaaDoor.cb Go.Proofs.YthmfljjpanghgaaDoor.cp Go.Proofs.YthmfljjpanghgaaDoor.ga Go.Proofs.YthmfljjpanghgaaDoor.aa Go.Proofs.YthmfljjpanghgaaDoor.ka Go.Proofs.YthmfljjpanghgaaDoor.kb Go.Proofs.YthmfljjpanghgaaDoor.kc Go.Proofs.YthmfljjpanghgaaDoor.kp Go.Proofs.YthmfljjpanghgaaDoor.lk Go.Proofs.YthmfljjpanghgaaDoor.mi Go.Proofs.YthmfljjpanghgaaDoor.lm Go.Proofs.YthmfljjpanghgaaDoor.co Go.Proofs.YthmfljjpanghgaaDoor.cn Go.Proofs.YthmfljjpanghgaaDoor.dc Go.Proofs.YthmfljjpanghgaaDoor.qa Go.Proofs.YthmfljjpanghgaaDoor.qb Go.Proofs.YthmfljjpanghgaaDoor.qc Go.Proofs.YthmfljjpanghgaaDoor.wb Go.Proofs.YthmfljjpanghgaaDoor.qr Go.Proofs.YthmfljjpanghgaaDoor.qs Go.Proofs.YthmfljjpanghgaaDoor.qt Go.Proofs.YthmfljjpanghgaaDoor.qu Go.Proofs.YthmfljjpanghgaaDoor.qv
open Go.Proofs.YthmfljjpanghgaaDoor.qd (reads_nilI two_reads)
set_option linter.unusedVariables false
set_option linter.unusedSimpArgs false
-- what is refused ahead of the walk
def conR (wd m n : Int) (proof others : List ByteArray) : Int := if (cnt9 2 m 0 n []).2 = 0 then rH wd (cnt9 2 m 0 n []).1 proof others else (cnt9 2 m 0 n []).2
def conA (wd m n : Int) (old root : ByteArray) (proof : List ByteArray) : Int :=
  if conR wd m n proof [old, root] = 0 then (if m = 0 then begA wd n old root else if gw2 wd m.toNat n.toNat old proof = (old, root) then 0 else 90) else conR wd m n proof [old, root]
theorem conR_ok {wd m n : Int} {proof others : List ByteArray} (h : conR wd m n proof others = 0) : ∃ M N : Nat, m = M ∧ n = N ∧ M ≤ N ∧ N ≤ 4611686018427387904 ∧ (proof.length = if M = 0 then 0 else (WL (lkC M) 0 N).length) ∧ Wide wd proof ∧ Wide wd others ∧ cnt9 2 m 0 n [] = ((proof.length : Int), 0) := by
  unfold conR at h
  by_cases h0 : ref9 2 m 0 n [] = 0
  · have hc : cnt9 2 m 0 n [] = (((num9 2 m 0 n [] : Nat) : Int), 0) := by unfold cnt9; rw [if_pos h0]
    rw [hc, if_pos rfl] at h
    unfold ref9 at h0
    rw [if_neg (by omega)] at h0
    by_cases k2 : n < 0 ∨ 4611686018427387904 < n
    · rw [if_pos k2] at h0; omega
    rw [if_neg k2, if_neg (by omega), if_pos rfl] at h0
    by_cases g : m < 0 ∨ n < m
    · rw [if_pos g] at h0; omega
    obtain ⟨M, rfl⟩ : ∃ A : Nat, m = A := ⟨m.toNat, by omega⟩
    obtain ⟨N, rfl⟩ : ∃ A : Nat, n = A := ⟨n.toNat, by omega⟩
    unfold rH at h
    have hn : num9 2 (M : Int) 0 (N : Int) [] = if M = 0 then 0 else (WL (lkC M) 0 N).length := by
      unfold num9
      rw [if_neg (by omega), if_pos rfl, Int.toNat_natCast, Int.toNat_natCast]
      by_cases e : M = 0
      · rw [if_pos e, if_pos (by omega)]
      · rw [if_neg e, if_neg (by omega)]
    by_cases q : (okH wd others && okH wd proof) = true
    · rw [if_pos q] at h
      rw [Bool.and_eq_true] at q
      by_cases q2 : (proof.length : Int) = ((num9 2 (M : Int) 0 (N : Int) [] : Nat) : Int)
      · exact ⟨M, N, rfl, rfl, by omega, by omega, by rw [← hn]; omega, okH_wide q.2, okH_wide q.1, by rw [hc, q2]⟩
      · rw [if_neg q2] at h; omega
    · rw [if_neg q] at h; omega
  · have hc : cnt9 2 m 0 n [] = (0, ref9 2 m 0 n []) := by unfold cnt9; rw [if_neg h0]
    rw [hc] at h
    simp only at h
    rw [if_neg h0] at h
    exact absurd h h0
theorem eqB (a b x y : ByteArray) (w : World) (c : Bool) (h : (!(a.toList == x.toList && b.toList == y.toList)) = c) : (binOp .neq 84 (.agg #[.string a, .string b]) (.agg #[.string x, .string y])).run Tryd.prog w = .ok (.bool c) w := by
  subst h
  by_cases h1 : a.toList = x.toList <;> by_cases h2 : b.toList = y.toList <;> simp [go_sem, h1, h2]
set_option maxRecDepth 100000 in
set_option maxHeartbeats 6400000 in
theorem consC (wd m n : Int) (hwd : i64 wd) (old root : ByteArray) (vp : Value) (proof : List ByteArray) (w : World) (hp : ReadsT w vp proof) (zp : proof.length ≤ 140737488355328) (hT : Tab w) :
    Calls Tryd.prog 18 #[.int .i64 wd, .int .i64 m, .int .i64 n, .string old, .string root, vp] w fun e w' => e = .returned (.int .i64 (conA wd m n old root proof)) ∧ Below w.heap.size w w' := by
  have CC : Hid (Calls _ _ _ _ _) := countC 2 m 0 n (.slice none 0 0) [] w (reads_nilI w) (by simp)
  have RH : Hid (∀ w1, Below w.heap.size w w1 → Calls _ _ _ _ _) := fun w1 b => refuseH wd hwd (cnt9 2 m 0 n []).1 vp _ proof [old, root] _ ((hp.later b).later ((Below.refl _ _).alloc (Nat.le_refl _) _)) (two_reads w1 old root) zp (by simp)
  have HP : Hid (ReadsT w vp proof ∧ Tab w) := ⟨hp, hT⟩
  have hp2 := hp
  obtain ⟨pa, pc, rfl, _⟩ := hp
  unfold conA
  by_cases h : conR wd m n proof [old, root] = 0
  · obtain ⟨M, N, rfl, rfl, q1, q2, q3, q4, q5, q6⟩ := conR_ok h
    have hrh : rH wd (proof.length : Int) proof [old, root] = 0 := by
      unfold conR at h
      rw [q6] at h
      simpa using h
    rw [if_pos h]
    rw [q6] at CC RH
    simp only at CC RH
    rw [hrh] at RH
    obtain ⟨l, HL⟩ : ∃ l, Hid (proof.length = l) := ⟨_, rfl⟩
    rw [HL.out] at CC RH HP ⊢
    have hzl : l ≤ 140737488355328 := by rw [← HL.out]; exact zp
    by_cases h0 : M = 0
    · subst h0
      have z0 : ((0 : Nat) : Int) = 0 := rfl
      rw [z0] at CC ⊢
      rw [if_pos rfl]
      have CB : Hid (∀ w1, Below w.heap.size w w1 → Calls _ _ _ _ _) := fun w1 b => beginC wd (N : Int) old root w1 (HP.out.2.down b)
      obtain ⟨x, HX⟩ : ∃ x, Hid (begA wd (N : Int) old root = x) := ⟨_, rfl⟩
      rw [HX.out] at CB ⊢
      clear h hrh q3 q4 q5 q6 hp2 zp hT
      go_enter Tryd.func18, Tryd.ntmps18
      go_wp2_with fail
      refine CC.out.mono ?_
      rintro _ w1 ⟨rfl, b1⟩
      have B1 : Hid (Below w.heap.size w w1) := b1
      have B2 : Hid (Below w.heap.size w (w1.alloc (.cells #[.string old, .string root] 9))) := over b1 ((Below.refl _ _).alloc (Nat.le_refl _) _)
      clear b1
      go_wp2_with fail
      refine (RH.out _ B1.out).mono ?_
      rintro _ wz ⟨rfl, hwz⟩
      rw [hwz]
      clear hwz
      go_wp2_with fail
      refine (CB.out _ B2.out).mono ?_
      rintro _ w3 ⟨rfl, b3⟩
      have B3 : Hid (Below w.heap.size w w3) := over B2.out b3
      clear b3
      go_wp2
      go_ret
      exact ⟨rfl, B3.out⟩
    · rw [if_neg (by omega), Int.toNat_natCast, Int.toNat_natCast]
      rw [if_neg h0] at q3
      have m0 : ((M : Int) == 0) = false := by rw [beq_eq_false_iff_ne]; omega
      -- the pile's box behind all
      have GC : Hid (∀ w1, Below w.heap.size w w1 → Calls Tryd.prog 51 #[.int .i64 wd, .int .i64 M, .int .i64 N, .string old, .func (.func 52) #[.pointer (some ⟨w1.heap.size, 0, none⟩)] #[]] (w1.alloc (.cells #[.slice pa l pc] 82)) fun e w' => e = .returned (e2 (gw2 wd M N old proof)) ∧ Below w.heap.size w w') := fun w1 b => by
        have b2 : Below w1.heap.size w1 (w1.alloc (.cells #[.slice pa l pc] 82)) := (Below.refl _ _).alloc (Nat.le_refl _) _
        have b3 := over b b2
        have hr := Old.of (HP.out.1.later b)
        have kk : Kp no w1 (w1.alloc (.cells #[.slice pa l pc] 82)) := Kp.of_below b2
        have hpile : Pile w1.heap.size w1.heap.size proof (w1.alloc (.cells #[.slice pa l pc] 82)) := ⟨Nat.le_refl _, _, heap_alloc_new w1 _, hr.keep kk (fun _ e => e.elim)⟩
        have hT1 := HP.out.2.down b
        exact (growC wd M N old w1.heap.size w1.heap.size proof _ (by omega) q1 q2 (q5 old (by simp)) hpile (HP.out.2.down b3) hT1.big b2.size (by rw [q3]; exact Nat.le_refl _) q4).mono fun e w' ⟨g1, g2, g3⟩ => ⟨g1, b.trans (((Below.mono b2 b.size)).trans (g3.mono b.size))⟩
      obtain ⟨G, HG⟩ : ∃ G, Hid (gw2 wd M N old proof = G) := ⟨_, rfl⟩
      rw [HG.out] at GC ⊢
      obtain ⟨g1, g2⟩ := G
      unfold e2 at GC
      simp only at GC
      have QE : ∃ c, Hid ((∀ w, (binOp .neq 84 (.agg #[.string g1, .string g2]) (.agg #[.string old, .string root])).run Tryd.prog w = .ok (.bool c) w) ∧ (if (g1, g2) = (old, root) then (0 : Int) else 90) = if c then 90 else 0) := by
        refine ⟨!(g1.toList == old.toList && g2.toList == root.toList), fun w => eqB g1 g2 old root w _ rfl, ?_⟩
        rw [beqL, beqL]
        by_cases a1 : g1 = old <;> by_cases a2 : g2 = root <;> simp [a1, a2]
      obtain ⟨c, HQ⟩ := QE
      have qe := HQ.out.1
      rw [HQ.out.2]
      clear h hrh q3 q4 q5 q6 hp2 zp hT
      cases c
      all_goals (
        go_enter Tryd.func18, Tryd.ntmps18
        go_wp2_with fail
        refine CC.out.mono ?_
        rintro _ w1 ⟨rfl, b1⟩
        have B1 : Hid (Below w.heap.size w w1) := b1
        have B2 : Hid (Below w.heap.size w (w1.alloc (.cells #[.string old, .string root] 9))) := over b1 ((Below.refl _ _).alloc (Nat.le_refl _) _)
        have hs1 : (w1.alloc (.cells #[.string old, .string root] 9)).heap.size = w1.heap.size + 1 := by simp
        have GC2 : Hid (Calls _ _ _ _ _) := GC.out _ B2.out
        rw [hs1] at GC2
        clear hs1
        clear b1
        go_wp2_with fail
        refine (RH.out _ B1.out).mono ?_
        rintro _ wz ⟨rfl, hwz⟩
        rw [hwz]
        clear hwz
        go_wp2_with fail
        refine GC2.out.mono ?_
        rintro _ w3 ⟨rfl, b3⟩
        have B3 : Hid (Below w.heap.size w w3) := b3
        clear b3
        go_wp2
        go_ret
        exact ⟨rfl, B3.out⟩)
  · rw [if_neg h]
    obtain ⟨r, HRR⟩ : ∃ r, Hid (conR wd m n proof [old, root] = r) := ⟨_, rfl⟩
    have h' := h
    unfold conR at HRR h'
    obtain ⟨c, HC⟩ : ∃ c, Hid (cnt9 2 m 0 n [] = c) := ⟨_, rfl⟩
    rw [HC.out] at CC RH HRR h'
    obtain ⟨c1, c2⟩ := c
    simp only at CC RH HRR h'
    obtain ⟨l, HL⟩ : ∃ l, Hid (proof.length = l) := ⟨_, rfl⟩
    rw [HL.out] at RH HP ⊢
    by_cases hc : c2 = 0
    · rw [if_pos hc] at HRR h'
      have hr : conR wd m n proof [old, root] = r := by unfold conR; rw [HC.out]; simp only; rw [if_pos hc]; exact HRR.out
      rw [HRR.out] at RH h'
      subst hc
      rw [hr]
      have q : (r != 0) = true := by rw [bne_iff_ne]; exact h'
      clear h h' hp2 zp hT hr
      go_enter Tryd.func18, Tryd.ntmps18
      go_wp2_with fail
      refine CC.out.mono ?_
      rintro _ w1 ⟨rfl, b1⟩
      have B1 : Hid (Below w.heap.size w w1) := b1
      have B2 : Hid (Below w.heap.size w (w1.alloc (.cells #[.string old, .string root] 9))) := over b1 ((Below.refl _ _).alloc (Nat.le_refl _) _)
      clear b1
      go_wp2_with fail
      refine (RH.out _ B1.out).mono ?_
      rintro _ wz ⟨rfl, hwz⟩
      rw [hwz]
      clear hwz
      go_wp2
      go_ret
      exact ⟨rfl, B2.out⟩
    · rw [if_neg hc] at HRR h'
      have hr : conR wd m n proof [old, root] = c2 := by unfold conR; rw [HC.out]; simp only; rw [if_neg hc]
      rw [hr]
      have q : (c2 != 0) = true := by rw [bne_iff_ne]; exact hc
      clear h h' hp2 zp hT hr hc HRR
      go_enter Tryd.func18, Tryd.ntmps18
      go_wp2_with fail
      refine CC.out.mono ?_
      rintro _ w1 ⟨rfl, b1⟩
      have B1 : Hid (Below w.heap.size w w1) := b1
      clear b1
      go_wp2
      go_ret
      exact ⟨rfl, B1.out⟩
end Go.Proofs.YthmfljjpanghgaaDoor.qw
