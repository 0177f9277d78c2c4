import Derived.Test.YtmigdhohbjnhcaaDoorWk1
import Derived.Deep.RegionHeldLaw
namespace Go.Proofs.YtmigdhohbjnhcaaDoor.wk2
open Go.RowKit Go.PlainAid
open Go.Proofs.YtmigdhohbjnhcaaDoor.pj Go.Proofs.YtmigdhohbjnhcaaDoor.rf Go.Proofs.YtmigdhohbjnhcaaDoor.ca Go.Proofs.YtmigdhohbjnhcaaDoor.cb Go.Proofs.YtmigdhohbjnhcaaDoor.cp Go.Proofs.YtmigdhohbjnhcaaDoor.ka Go.Proofs.YtmigdhohbjnhcaaDoor.kb Go.Proofs.YtmigdhohbjnhcaaDoor.ga Go.Proofs.YtmigdhohbjnhcaaDoor.gb Go.Proofs.YtmigdhohbjnhcaaDoor.gc Go.Proofs.YtmigdhohbjnhcaaDoor.mb Go.Proofs.YtmigdhohbjnhcaaDoor.gs Go.Proofs.YtmigdhohbjnhcaaDoor.wk1
set_option linter.unusedVariables false

-- a promise and a checkpoint in their boxes
structure Pc where
  hash : ByteArray
  tm : Int
  due : Int
  mac : ByteArray
  o : ByteArray
  size : Int
  root : ByteArray
  ext : Value
def prB (x : Pc) : Obj := .cells #[.string x.hash, .int .i64 x.tm, .int .i64 x.due, .string x.mac] 23 (0, 0)
def ckB (x : Pc) : Obj := .cells #[.string x.o, .int .i64 x.size, .string x.root, x.ext] 26 (0, 0)
structure Kb (w : World) (P C : Nat) (x : Pc) (W : World) : Prop where
  bl : Below w.heap.size w W
  pr : W.heap[P]? = some (prB x)
  ck : W.heap[C]? = some (ckB x)
theorem Kb.later {w : World} {P C : Nat} {x : Pc} {W W' : World} (t : Kb w P C x W) (h : Below W.heap.size W W') : Kb w P C x W' :=
  ⟨t.bl.trans (h.mono t.bl.size), (h.block _ (Array.getElem?_eq_some_iff.1 t.pr).1).trans t.pr, (h.block _ (Array.getElem?_eq_some_iff.1 t.ck).1).trans t.ck⟩
theorem kb_new (w : World) (x : Pc) : Kb w w.heap.size (w.heap.size + 1) x ((w.alloc (prB x)).alloc (ckB x)) := by
  have ez : (w.alloc (prB x)).heap.size = w.heap.size + 1 := by simp
  refine ⟨((Below.refl _ _).alloc (Nat.le_refl _) _).alloc (by rw [ez]; omega) _, ?_, ?_⟩
  · rw [Below.heap_alloc _ _ _ (by rw [ez]; omega)]
    exact heap_alloc_new _ _
  · rw [← ez]
    exact heap_alloc_new _ _
theorem row4 {W : World} {b : Nat} {t : TypeId} {a0 a1 a2 a3 : Value} (h : W.heap[b]? = some (.cells #[a0, a1, a2, a3] t (0, 0))) : W.cell? ⟨b, 0, none⟩ = some a0 ∧ W.cell? ⟨b, 1, none⟩ = some a1 ∧ W.cell? ⟨b, 2, none⟩ = some a2 ∧ W.cell? ⟨b, 3, none⟩ = some a3 := by
  refine ⟨?_, ?_, ?_, ?_⟩ <;> (rw [cell_of_row _ _ _ _ _ _ h]; rfl)
theorem Kb.cells {w : World} {P C : Nat} {x : Pc} {W : World} (t : Kb w P C x W) : (W.cell? ⟨P, 0, none⟩ = some (.string x.hash) ∧ W.cell? ⟨P, 1, none⟩ = some (.int .i64 x.tm) ∧ W.cell? ⟨P, 2, none⟩ = some (.int .i64 x.due) ∧ W.cell? ⟨P, 3, none⟩ = some (.string x.mac)) ∧ W.cell? ⟨C, 0, none⟩ = some (.string x.o) ∧ W.cell? ⟨C, 1, none⟩ = some (.int .i64 x.size) ∧ W.cell? ⟨C, 2, none⟩ = some (.string x.root) ∧ W.cell? ⟨C, 3, none⟩ = some x.ext := ⟨row4 t.pr, row4 t.ck⟩
def prV (x : Pc) : Value := .agg #[.string x.hash, .int .i64 x.tm, .int .i64 x.due, .string x.mac]
def ckV (x : Pc) : Value := .agg #[.string x.o, .int .i64 x.size, .string x.root, x.ext]
-- was it kept?
def kpT (wd : Int) (x : Pc) (leaf : ByteArray) (xs : List ByteArray) (at' : Int) : Bool × Int :=
  if (xs.length : Int) ≠ x.size ∨ RT wd xs ≠ x.root then (false, 242) else if x.hash ≠ sha leaf then (false, 243) else (decide (at' ≤ x.due) || inL leaf xs, 0)
theorem below_dN' {B : Nat} {a w : World} (h : Below B a w) (m : Nat) : Below B a (w.drewN m) := by
  induction m with
  | zero => exact h
  | succ m ih => exact Go.Proofs.YtmigdhohbjnhcaaDoor.cp.below_dN h (m + 1)
-- THE PROGRAM
set_option maxHeartbeats 6400000 in
theorem keptC (wd : Int) (x : Pc) (leaf : ByteArray) (v : Value) (xs : List ByteArray) (at' : Int) (hwd : i64 wd) (hleaf : leaf.size ≤ 140737488352256) (hf : Fits xs) (w : World) (hr : ReadsT w v xs) (T : Hid (Tab w)) :
    Calls Tryd.prog 4 #[.int .i64 wd, prV x, .string leaf, ckV x, v, .int .i64 at'] w fun e w' => e = .returned (.tuple #[.bool (kpT wd x leaf xs at').1, .int .i64 (kpT wd x leaf xs at').2]) ∧ Below w.heap.size w w' := by
  obtain ⟨W1, HW1⟩ : ∃ W1, Hid ((w.alloc (prB x)).alloc (ckB x) = W1) := ⟨_, rfl⟩
  have K1' : Hid (Kb w w.heap.size (w.heap.size + 1) x W1) := by rw [← HW1.out]; exact kb_new w x
  obtain ⟨P, HP⟩ : ∃ K, Hid (w.heap.size = K) := ⟨_, rfl⟩
  obtain ⟨C, HC⟩ : ∃ R, Hid (w.heap.size + 1 = R) := ⟨_, rfl⟩
  have K1 : Hid (Kb w P C x W1) := by rw [← HP.out, ← HC.out]; exact K1'.out
  have RC : Hid (∀ W, Below w.heap.size w W → Calls Tryd.prog _ _ _ _) := fun W hb => rootC wd v xs W hwd (T.out.down hb) (hr.later hb) hf
  have SC : Hid (∀ W, Below w.heap.size w W → Calls Tryd.prog _ _ _ _) := fun W hb => Sum leaf W (by omega) (T.out.down hb)
  have CC : Hid (∀ W, Below w.heap.size w W → Calls Tryd.prog _ _ _ _) := fun W hb => containsT v xs leaf W (hr.later hb) (by have := hf.many; omega)
  obtain ⟨rt, HRT⟩ : ∃ r, Hid (RT wd xs = r) := ⟨_, rfl⟩
  obtain ⟨sh, HSH⟩ : ∃ r, Hid (sha leaf = r) := ⟨_, rfl⟩
  obtain ⟨il, HIL⟩ : ∃ r, Hid (inL leaf xs = r) := ⟨_, rfl⟩
  rw [HRT.out] at RC
  rw [HSH.out] at SC
  rw [HIL.out] at CC
  obtain ⟨a, cap, rfl, _, _⟩ := hr
  obtain ⟨n, HN⟩ : ∃ n, Hid (xs.length = n) := ⟨_, rfl⟩
  have HK : Hid (kpT wd x leaf xs at' = if (n : Int) ≠ x.size ∨ rt ≠ x.root then (false, 242) else if x.hash ≠ sh then (false, 243) else (decide (at' ≤ x.due) || il, 0)) := by
    show _ = _
    unfold kpT
    rw [HRT.out, HSH.out, HIL.out, HN.out]
  rw [HN.out] at RC CC ⊢
  obtain ⟨hash, tm, due, mac, o, size, root, ext⟩ := x
  obtain ⟨KV, HKV⟩ : ∃ k, Hid (kpT wd ⟨hash, tm, due, mac, o, size, root, ext⟩ leaf xs at' = k) := ⟨_, rfl⟩
  rw [HKV.out] at HK ⊢
  simp only at HK
  have SX : Hid (∀ W', Below W1.heap.size W1 W' → (W'.cell? ⟨P, 0, none⟩ = some (.string hash) ∧ W'.cell? ⟨P, 2, none⟩ = some (.int .i64 due)) ∧ W'.cell? ⟨C, 1, none⟩ = some (.int .i64 size) ∧ W'.cell? ⟨C, 2, none⟩ = some (.string root)) := fun W' h => by
    obtain ⟨⟨k0, -, k2, -⟩, -, k5, k6, -⟩ := (K1.out.later h).cells
    exact ⟨⟨k0, k2⟩, k5, k6⟩
  have BW : Hid (∀ W', Below W1.heap.size W1 W' → Below w.heap.size w W') := fun W' h => K1.out.bl.trans (h.mono K1.out.bl.size)
  clear K1' T hf hleaf HKV
  show Calls Tryd.prog 4 #[.int .i64 wd, .agg #[.string hash, .int .i64 tm, .int .i64 due, .string mac], .string leaf, .agg #[.string o, .int .i64 size, .string root, ext], .slice a n cap, .int .i64 at'] w _
  obtain ⟨⟨k0, k2⟩, k5, k6⟩ := SX.out W1 (Below.refl _ _)
  by_cases hl : (n : Int) = size
  · subst hl
    by_cases hr : rt = root
    · have HRR : Hid (rt = root) := hr
      have ht : (rt.toList == root.toList) = true := by rw [beqL]; exact decide_eq_true hr
      clear hr
      go_enter Tryd.func4, Tryd.ntmps4
      go_upto_region 1 with fail
      rw [show (w.alloc (.cells #[.string hash, .int .i64 tm, .int .i64 due, .string mac] 23)).alloc (.cells #[.string o, .int .i64 (n : Int), .string root, ext] 26) = W1 from HW1.out, HC.out, HP.out]
      have KX : Hid (Below W1.heap.size W1 W1.drew) := Go.Proofs.YtmigdhohbjnhcaaDoor.cp.below_dN (Below.refl _ _) 1
      go_region_held_law (fun W' => W'.cell? ⟨C, 1, none⟩ = some (.int .i64 (n : Int)) ∧ W'.cell? ⟨C, 2, none⟩ = some (.string root)) (exact (SX.out _ KX.out).2) ((go_at_call 7; (refine (RC.out _ (BW.out _ KX.out)).mono ?_); rintro _ w2 ⟨rfl, hb⟩; have KX : Hid (Below W1.heap.size W1 w2) := (KX.out.trans (hb.mono KX.out.size)); clear hb))
      obtain ⟨⟨k0, k2⟩, k5, k6⟩ := SX.out w2 KX.out
      by_cases hh : hash = sh
      · have HV : Hid (KV = (decide (at' ≤ due) || il, 0)) := by
          show _ = _
          rw [HK.out, if_neg (by simp [HRR.out]), if_neg (by simp [hh])]
        have ht2 : (hash.toList == sh.toList) = true := by rw [beqL]; exact decide_eq_true hh
        clear hh
        have KY : Hid (Below W1.heap.size W1 w2.drew) := Go.Proofs.YtmigdhohbjnhcaaDoor.cp.below_dN KX.out 1
        go_wp2_with fail
        go_region_held_law (fun W' => W'.cell? ⟨P, 0, none⟩ = some (.string hash)) (exact (SX.out _ KY.out).1.1) ((go_at_call 8; (refine (SC.out _ (BW.out _ KY.out)).mono ?_); rintro _ w3 ⟨rfl, hb⟩; have KY : Hid (Below W1.heap.size W1 w3) := (KY.out.trans (hb.mono KY.out.size)); clear hb))
        obtain ⟨⟨k0, k2⟩, k5, k6⟩ := SX.out w3 KY.out
        by_cases ha : at' ≤ due
        · have da : decide (at' ≤ due) = true := decide_eq_true ha
          go_wp2
          go_ret2
          exact ⟨by rw [HV.out, da]; rfl, BW.out _ KY.out⟩
        · have da : decide (at' ≤ due) = false := decide_eq_false ha
          go_wp2_with fail
          refine (CC.out w3 (BW.out _ KY.out)).mono ?_
          rintro e w4 ⟨rfl, m, hm⟩
          have B4 : Hid (Below w.heap.size w w4) := by rw [hm]; exact below_dN' (BW.out _ KY.out) m
          clear hm
          go_wp2
          go_ret2
          exact ⟨by rw [HV.out, da]; rfl, B4.out⟩
      · have HV : Hid (KV = (false, 243)) := by
          show _ = _
          rw [HK.out, if_neg (by simp [HRR.out]), if_pos hh]
        have ht2 : (hash.toList == sh.toList) = false := by rw [beqL]; exact decide_eq_false hh
        clear hh
        have KY : Hid (Below W1.heap.size W1 w2.drew) := Go.Proofs.YtmigdhohbjnhcaaDoor.cp.below_dN KX.out 1
        go_wp2_with fail
        go_region_held_law (fun W' => W'.cell? ⟨P, 0, none⟩ = some (.string hash)) (exact (SX.out _ KY.out).1.1) ((go_at_call 8; (refine (SC.out _ (BW.out _ KY.out)).mono ?_); rintro _ w3 ⟨rfl, hb⟩; have KY : Hid (Below W1.heap.size W1 w3) := (KY.out.trans (hb.mono KY.out.size)); clear hb))
        obtain ⟨⟨k0, k2⟩, k5, k6⟩ := SX.out w3 KY.out
        go_wp2
        go_ret2
        exact ⟨by rw [HV.out]; rfl, BW.out _ KY.out⟩
    · have HV : Hid (KV = (false, 242)) := by
        show _ = _
        rw [HK.out, if_pos (.inr hr)]
      have ht : (rt.toList == root.toList) = false := by rw [beqL]; exact decide_eq_false hr
      clear hr
      go_enter Tryd.func4, Tryd.ntmps4
      go_upto_region 1 with fail
      rw [show (w.alloc (.cells #[.string hash, .int .i64 tm, .int .i64 due, .string mac] 23)).alloc (.cells #[.string o, .int .i64 (n : Int), .string root, ext] 26) = W1 from HW1.out, HC.out, HP.out]
      have KX : Hid (Below W1.heap.size W1 W1.drew) := Go.Proofs.YtmigdhohbjnhcaaDoor.cp.below_dN (Below.refl _ _) 1
      go_region_held_law (fun W' => W'.cell? ⟨C, 1, none⟩ = some (.int .i64 (n : Int)) ∧ W'.cell? ⟨C, 2, none⟩ = some (.string root)) (exact (SX.out _ KX.out).2) ((go_at_call 7; (refine (RC.out _ (BW.out _ KX.out)).mono ?_); rintro _ w2 ⟨rfl, hb⟩; have KX : Hid (Below W1.heap.size W1 w2) := (KX.out.trans (hb.mono KX.out.size)); clear hb))
      go_wp2
      go_ret2
      exact ⟨by rw [HV.out]; rfl, BW.out _ KX.out⟩
  · have HV : Hid (KV = (false, 242)) := by
      show _ = _
      rw [HK.out, if_pos (.inl hl)]
    have hl' : ((n : Int) == size) = false := beq_eq_false_iff_ne.2 hl
    go_enter Tryd.func4, Tryd.ntmps4
    go_upto_region 1 with fail
    rw [show (w.alloc (.cells #[.string hash, .int .i64 tm, .int .i64 due, .string mac] 23)).alloc (.cells #[.string o, .int .i64 size, .string root, ext] 26) = W1 from HW1.out, HC.out, HP.out]
    go_quiet (fail)
    go_wp2
    go_ret2
    exact ⟨by rw [HV.out]; rfl, below_dN' K1.out.bl nq⟩
-- THE DOCUMENT
set_option maxHeartbeats 6400000 in
theorem keptD (wd : Int) (x : Pc) (leaf : ByteArray) (v : Value) (xs : List ByteArray) (at' : Int) (hleaf : leaf.size ≤ 140737488352256) (hf : Fits xs) (w : World) (hr : ReadsT w v xs) (T : Hid (Tab4 w)) :
    Calls Tryd.prog 5 #[.int .i64 wd, prV x, .string leaf, ckV x, v, .int .i64 at'] w fun e w' => e = .returned (.tuple #[.bool (kpT wd x leaf xs at').1, .int .i64 (kpT wd x leaf xs at').2]) ∧ Below w.heap.size w w' := by
  obtain ⟨W1, HW1⟩ : ∃ W1, Hid ((w.alloc (prB x)).alloc (ckB x) = W1) := ⟨_, rfl⟩
  have K1' : Hid (Kb w w.heap.size (w.heap.size + 1) x W1) := by rw [← HW1.out]; exact kb_new w x
  obtain ⟨P, HP⟩ : ∃ K, Hid (w.heap.size = K) := ⟨_, rfl⟩
  obtain ⟨C, HC⟩ : ∃ R, Hid (w.heap.size + 1 = R) := ⟨_, rfl⟩
  have K1 : Hid (Kb w P C x W1) := by rw [← HP.out, ← HC.out]; exact K1'.out
  have RC : Hid (Calls Tryd.prog _ _ _ _) := rRoot wd xs.length xs v W1 rfl (T.out.down K1.out.bl) (hr.later K1.out.bl) hf
  have SC : Hid (∀ W, Below w.heap.size w W → Calls Tryd.prog _ _ _ _) := fun W hb => RSum leaf W (by omega) (T.out.down hb)
  have HRD : Hid (∀ W, Below w.heap.size w W → ReadsT W v xs) := fun W hb => hr.later hb
  obtain ⟨rt, HRT⟩ : ∃ r, Hid (RT wd xs = r) := ⟨_, rfl⟩
  obtain ⟨sh, HSH⟩ : ∃ r, Hid (sha leaf = r) := ⟨_, rfl⟩
  rw [HRT.out] at RC
  rw [HSH.out] at SC
  obtain ⟨a, cap, rfl, _, _⟩ := hr
  obtain ⟨n, HN⟩ : ∃ n, Hid (xs.length = n) := ⟨_, rfl⟩
  obtain ⟨il, HIL⟩ : ∃ r, Hid (ixT leaf xs 0 = r) := ⟨_, rfl⟩
  have HK : Hid (kpT wd x leaf xs at' = if (n : Int) ≠ x.size ∨ rt ≠ x.root then (false, 242) else if x.hash ≠ sh then (false, 243) else (decide (at' ≤ x.due) || decide (0 ≤ il), 0)) := by
    show _ = _
    unfold kpT inL
    rw [HRT.out, HSH.out, HIL.out, HN.out]
  have hnm : n * 16 ≤ 140737488351232 := by have := hf.many; rw [HN.out] at this; exact this
  rw [HN.out] at RC HRD ⊢
  obtain ⟨hash, tm, due, mac, o, size, root, ext⟩ := x
  obtain ⟨KV, HKV⟩ : ∃ k, Hid (kpT wd ⟨hash, tm, due, mac, o, size, root, ext⟩ leaf xs at' = k) := ⟨_, rfl⟩
  rw [HKV.out] at HK ⊢
  simp only at HK
  have SX : Hid (∀ W', Below W1.heap.size W1 W' → (W'.cell? ⟨P, 0, none⟩ = some (.string hash) ∧ W'.cell? ⟨P, 2, none⟩ = some (.int .i64 due)) ∧ W'.cell? ⟨C, 1, none⟩ = some (.int .i64 size) ∧ W'.cell? ⟨C, 2, none⟩ = some (.string root)) := fun W' h => by
    obtain ⟨⟨k0, -, k2, -⟩, -, k5, k6, -⟩ := (K1.out.later h).cells
    exact ⟨⟨k0, k2⟩, k5, k6⟩
  have BW : Hid (∀ W', Below W1.heap.size W1 W' → Below w.heap.size w W') := fun W' h => K1.out.bl.trans (h.mono K1.out.bl.size)
  clear K1' T hf hleaf HKV
  show Calls Tryd.prog 5 #[.int .i64 wd, .agg #[.string hash, .int .i64 tm, .int .i64 due, .string mac], .string leaf, .agg #[.string o, .int .i64 size, .string root, ext], .slice a n cap, .int .i64 at'] w _
  go_enter Tryd.func5, Tryd.ntmps5
  go_upto_region 1 with fail
  rw [show (w.alloc (.cells #[.string hash, .int .i64 tm, .int .i64 due, .string mac] 23)).alloc (.cells #[.string o, .int .i64 size, .string root, ext] 26) = W1 from HW1.out, HC.out, HP.out]
  go_wp2_with fail
  refine RC.out.mono ?_
  rintro e w2 ⟨rfl, hb⟩
  have KX : Hid (Below W1.heap.size W1 w2) := hb
  clear hb RC
  obtain ⟨⟨k0, k2⟩, k5, k6⟩ := SX.out w2 KX.out
  by_cases hl : (n : Int) = size
  · subst hl
    by_cases hr : rt = root
    · subst hr
      go_wp2_with fail
      refine (SC.out w2 (BW.out _ KX.out)).mono ?_
      rintro e w3 ⟨rfl, hb⟩
      have KY : Hid (Below W1.heap.size W1 w3) := KX.out.trans (hb.mono KX.out.size)
      clear hb k0 k2 k5 k6
      obtain ⟨⟨k0, k2⟩, k5, k6⟩ := SX.out w3 KY.out
      by_cases hh : hash = sh
      · subst hh
        have HV : Hid (KV = (decide (at' ≤ due) || decide (0 ≤ il), 0)) := by
          show _ = _
          rw [HK.out, if_neg (by simp), if_neg (by simp)]
        go_wp2
        go_loopw [16] (fun i wr => ∃ k : Nat, k ≤ n ∧ i = .int .i64 k ∧ Hid (ixT leaf (xs.drop k) k = il) ∧ Hid (Below W1.heap.size W1 wr)) (fun i _ => (n - intOf i).toNat)
        case atStart => exact ⟨0, by omega, rfl, HIL.out, KY.out⟩
        case round =>
          obtain ⟨k, hk, rfl, HKK, HB⟩ := hrel
          by_cases hlt : k < n
          · have hlt' : (k : Int) < n := by omega
            have hkl : k < xs.length := by rw [HN.out]; exact hlt
            obtain ⟨b, off, rfl, hc⟩ : ∃ b off, a = some ⟨b, off, none⟩ ∧ ∀ i, i < n → wr.cell? ⟨b, off + i, none⟩ = some (.string (xs.getD i ByteArray.empty)) := by
              obtain ⟨a', c', e1, _, h0 | ⟨b, off, rfl, hh⟩⟩ := HRD.out wr (BW.out _ HB.out)
              · omega
              · injection e1 with e1 _ _
                exact ⟨b, off, e1, fun i hi => hh i (by rw [HN.out]; exact hi)⟩
            obtain ⟨y, HY⟩ : ∃ x, Hid (xs[k]'hkl = x) := ⟨_, rfl⟩
            have hgd : xs.getD k ByteArray.empty = y := by rw [List.getD_eq_getElem?_getD, List.getElem?_eq_getElem hkl, HY.out]; rfl
            have c1 := hc k hlt
            rw [hgd] at c1
            have HS : Hid ((if leaf = y then (k : Int) else ixT leaf (xs.drop (k + 1)) (k + 1)) = il) := by show _ = _; rw [← HKK.out, ixT_drop leaf xs k hkl, HY.out]
            clear hc HY hgd
            by_cases hxy : leaf = y
            · subst hxy
              have hil : (0 : Int) ≤ il := by have := HS.out; rw [if_pos rfl] at this; omega
              have HV2 : Hid (KV = (true, 0)) := by show _ = _; rw [HV.out, decide_eq_true hil, Bool.or_true]
              go_wp2
              go_ret2
              exact ⟨by rw [HV2.out]; rfl, BW.out _ HB.out⟩
            · have HT : Hid (ixT leaf (xs.drop (k + 1)) (k + 1) = il) := by have := HS.out; rw [if_neg hxy] at this; exact this
              have hb : (y.toList == leaf.toList) = false := by rw [beqL]; exact decide_eq_false fun e => hxy e.symm
              clear HS hxy
              go_wp2
              go_roundw
              case rel => exact ⟨k + 1, by omega, by go_num, HT.out, HB.out⟩
              case measure => simp [intOf]; omega
          · have hlt' : ¬ (k : Int) < n := by omega
            have hil : il = -1 := by
              rw [← HKK.out, List.drop_of_length_le (by rw [HN.out]; omega)]
              rfl
            have HV2 : Hid (KV = (decide (at' ≤ due), 0)) := by show _ = _; rw [HV.out, hil]; simp
            clear hil
            obtain ⟨⟨k0, k2⟩, k5, k6⟩ := SX.out wr HB.out
            go_wp2
            go_ret2
            exact ⟨by rw [HV2.out]; rfl, BW.out _ HB.out⟩
      · have HV : Hid (KV = (false, 243)) := by
          show _ = _
          rw [HK.out, if_neg (by simp), if_pos hh]
        have ht : (hash.toList == sh.toList) = false := by rw [beqL]; exact decide_eq_false hh
        clear hh
        go_wp2
        go_ret2
        exact ⟨by rw [HV.out]; rfl, BW.out _ KY.out⟩
    · have HV : Hid (KV = (false, 242)) := by
        show _ = _
        rw [HK.out, if_pos (.inr hr)]
      have ht : (rt.toList == root.toList) = false := by rw [beqL]; exact decide_eq_false hr
      clear hr
      go_wp2
      go_ret2
      exact ⟨by rw [HV.out]; rfl, BW.out _ KX.out⟩
  · have HV : Hid (KV = (false, 242)) := by
      show _ = _
      rw [HK.out, if_pos (.inl hl)]
    have hl' : ((n : Int) == size) = false := beq_eq_false_iff_ne.2 hl
    go_wp2
    go_ret2
    exact ⟨by rw [HV.out]; rfl, BW.out _ KX.out⟩
end Go.Proofs.YtmigdhohbjnhcaaDoor.wk2
