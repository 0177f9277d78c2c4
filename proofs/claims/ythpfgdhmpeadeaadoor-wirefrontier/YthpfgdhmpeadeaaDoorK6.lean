import Derived.Test.YthpfgdhmpeadeaaDoorK4
import Derived.Test.YthpfgdhmpeadeaaDoorK5
import Derived.Test.YthpfgdhmpeadeaaDoorJ1
import Derived.Laws.Strings2
import Derived.Test.YthpfgdhmpeadeaaDoorG1
namespace Go.Proofs.YthpfgdhmpeadeaaDoor.w4
open Go.RowKit Go.PlainAid Go.Shelf
open Go.Proofs.YthpfgdhmpeadeaaDoor.ca Go.Proofs.YthpfgdhmpeadeaaDoor.cb Go.Proofs.YthpfgdhmpeadeaaDoor.cp Go.Proofs.YthpfgdhmpeadeaaDoor.cs Go.Proofs.YthpfgdhmpeadeaaDoor.ct Go.Proofs.YthpfgdhmpeadeaaDoor.xc Go.Proofs.YthpfgdhmpeadeaaDoor.ga Go.Proofs.YthpfgdhmpeadeaaDoor.kp Go.Proofs.YthpfgdhmpeadeaaDoor.na Go.Proofs.YthpfgdhmpeadeaaDoor.nb Go.Proofs.YthpfgdhmpeadeaaDoor.nc Go.Proofs.YthpfgdhmpeadeaaDoor.nh Go.Proofs.YthpfgdhmpeadeaaDoor.mi Go.Proofs.YthpfgdhmpeadeaaDoor.ea Go.Proofs.YthpfgdhmpeadeaaDoor.eb Go.Proofs.YthpfgdhmpeadeaaDoor.ec Go.Proofs.YthpfgdhmpeadeaaDoor.ed Go.Proofs.YthpfgdhmpeadeaaDoor.ee Go.Proofs.YthpfgdhmpeadeaaDoor.ef Go.Proofs.YthpfgdhmpeadeaaDoor.eg Go.Proofs.YthpfgdhmpeadeaaDoor.eh Go.Proofs.YthpfgdhmpeadeaaDoor.ei Go.Proofs.YthpfgdhmpeadeaaDoor.ej Go.Proofs.YthpfgdhmpeadeaaDoor.ek Go.Proofs.YthpfgdhmpeadeaaDoor.eo Go.Proofs.YthpfgdhmpeadeaaDoor.ep Go.Proofs.YthpfgdhmpeadeaaDoor.eq Go.Proofs.YthpfgdhmpeadeaaDoor.er Go.Proofs.YthpfgdhmpeadeaaDoor.es Go.Proofs.YthpfgdhmpeadeaaDoor.ka Go.Proofs.YthpfgdhmpeadeaaDoor.bn Go.Proofs.YthpfgdhmpeadeaaDoor.e1 Go.Proofs.YthpfgdhmpeadeaaDoor.e2 Go.Proofs.YthpfgdhmpeadeaaDoor.e3 Go.Proofs.YthpfgdhmpeadeaaDoor.e4 Go.Proofs.YthpfgdhmpeadeaaDoor.e5 Go.Proofs.YthpfgdhmpeadeaaDoor.e6 Go.Proofs.YthpfgdhmpeadeaaDoor.e8 Go.Proofs.YthpfgdhmpeadeaaDoor.e10 Go.Proofs.YthpfgdhmpeadeaaDoor.e11 Go.Proofs.YthpfgdhmpeadeaaDoor.ff
set_option linter.unusedVariables false

-- each has a letter of its own
theorem let_p {b : ByteArray} (h : pE b = 0) : ∃ t, bl b = 80 :: t := ⟨_, (proof_only b h).2⟩
theorem let_f {b : ByteArray} (h : fE b = 0) : ∃ t, bl b = 70 :: t := ⟨_, (front_only b h).2.2.2.2.2⟩
theorem let_h {b : ByteArray} (h : hE b = 0) : ∃ t, bl b = 72 :: t := ⟨_, (row_only b h).2.2.2.2⟩
theorem let_l {b : ByteArray} (h : unLeavesE b = 0) : ∃ t, bl b = 76 :: t := ⟨_, (unLeaves_only b h).1⟩
theorem let_ne {b : ByteArray} {c d : UInt8} (h : ∃ t, bl b = c :: t) (k : ∃ t, bl b = d :: t) (hcd : c ≠ d) : False := by
  obtain ⟨t, h⟩ := h
  obtain ⟨s, k⟩ := k
  rw [h] at k
  exact hcd (List.cons.inj k).1
-- is it taken by one of the four?
def tk (b : ByteArray) : Prop := pE b = 0 ∨ fE b = 0 ∨ hE b = 0 ∨ unLeavesE b = 0
instance (b : ByteArray) : Decidable (tk b) := by unfold tk; infer_instance
theorem tk_ext {x y : ByteArray} {r : List UInt8} (hx : tk x) (h : bl y = bl x ++ r) (hy : tk y) : r = [] := by
  have key : ∀ c : UInt8, (∃ t, bl x = c :: t) → ∃ t, bl y = c :: t := fun c ⟨t, e⟩ => ⟨t ++ r, by rw [h, e]; rfl⟩
  rcases hx with hx | hx | hx | hx
  · have l1 := key _ (let_p hx)
    rcases hy with hy | hy | hy | hy
    · exact proof_ext x y r hx h hy
    · exact (let_ne l1 (let_f hy) (by decide)).elim
    · exact (let_ne l1 (let_h hy) (by decide)).elim
    · exact (let_ne l1 (let_l hy) (by decide)).elim
  · have l1 := key _ (let_f hx)
    rcases hy with hy | hy | hy | hy
    · exact (let_ne l1 (let_p hy) (by decide)).elim
    · exact front_ext x y r hx h hy
    · exact (let_ne l1 (let_h hy) (by decide)).elim
    · exact (let_ne l1 (let_l hy) (by decide)).elim
  · have l1 := key _ (let_h hx)
    rcases hy with hy | hy | hy | hy
    · exact (let_ne l1 (let_p hy) (by decide)).elim
    · exact (let_ne l1 (let_f hy) (by decide)).elim
    · exact row_ext x y r hx h hy
    · exact (let_ne l1 (let_l hy) (by decide)).elim
  · have l1 := key _ (let_l hx)
    rcases hy with hy | hy | hy | hy
    · exact (let_ne l1 (let_p hy) (by decide)).elim
    · exact (let_ne l1 (let_f hy) (by decide)).elim
    · exact (let_ne l1 (let_h hy) (by decide)).elim
    · exact leaves_ext x y r hx h hy
-- what is read, written again
theorem again_p {b : ByteArray} (h : pE b = 0) : proofV (upR b).k (upR b).wd (upR b).a (upR b).b (upR b).n (upR b).at' (upR b).hs = .tuple #[.string b, .int .i64 0] := by
  obtain ⟨v, e⟩ := proof_only b h
  have hu : upR b = ⟨(pK b).1, (pW b).1, (pSh b).a, (pSh b).b, (pSh b).n, (pSh b).at', (pHs b).1⟩ := by unfold upR; rw [if_pos h]
  rw [hu]
  show proofV (pK b).1 (pW b).1 (pSh b).a (pSh b).b (pSh b).n (pSh b).at' (pHs b).1 = _
  unfold proofV
  rw [(valid_iff _ _ _ _ _ _ _).2 v, if_pos rfl]
  have : proofT (pK b).1 (pW b).1 (pSh b).a (pSh b).b (pSh b).n (pSh b).at' (pHs b).1 = b := bl_inj (by rw [proofT_is, ← e])
  rw [this]
theorem widI_id {w : Int} (h0 : 1 ≤ w) (h1 : w ≤ 32) : widI w = w := if_pos ⟨h0, h1⟩
theorem again_f {b : ByteArray} (h : fE b = 0) : frontV (ufR b).wd (ufR b).lo (ufR b).hi (ufR b).hs = .tuple #[.string b, .int .i64 0] := by
  obtain ⟨v1, v2, v3, v4, v5, e⟩ := front_only b h
  have hu : ufR b = ⟨(fL b).1, (fH b).1, (fW b).1, (fS b).1⟩ := by unfold ufR; rw [if_pos h]
  rw [hu]
  show frontV (fW b).1 (fL b).1 (fH b).1 (fS b).1 = _
  have hz : frontE (fW b).1 (fL b).1 (fH b).1 (fS b).1 = 0 := by
    unfold frontE
    rw [if_pos (covE_zero.2 v3), if_pos v4, widI_id v1 v2, if_pos (all_sz.2 v5)]
  unfold frontV
  rw [hz, if_pos rfl]
  have : frontT (fW b).1 (fL b).1 (fH b).1 (fS b).1 = b := bl_inj (by rw [frontT_is, widI_id v1 v2, ← e])
  rw [this]
theorem again_h {b : ByteArray} (h : hE b = 0) : hashV (hWd b) (hL b) = .tuple #[.string b, .int .i64 0] := by
  obtain ⟨v1, v2, v3, v4, e⟩ := row_only b h
  have h1 : hWd b = (hW b).1 := by unfold hWd; rw [if_pos h]
  have h2 : hL b = (hS b).1 := by unfold hL; rw [if_pos h]
  rw [h1, h2]
  have hz : hashE (hW b).1 (hS b).1 = 0 := by
    unfold hashE
    rw [if_neg (by omega), widI_id v1 v2, if_pos (all_sz.2 v4)]
  unfold hashV
  rw [hz, if_pos rfl]
  have : hashT (hW b).1 (hS b).1 = b := bl_inj (by rw [hashT_is, widI_id v1 v2, ← e])
  rw [this]
theorem again_l {b : ByteArray} (h : unLeavesE b = 0) : leavesV (unLeavesL b) = .tuple #[.string b, .int .i64 0] := by
  obtain ⟨e, v1, v2⟩ := unLeaves_only b h
  have h1 : unLeavesL b = (unLeavesS b).1 := by unfold unLeavesL; rw [if_pos h]
  rw [h1]
  have hz : leavesE (unLeavesS b).1 = 0 := by
    unfold leavesE
    rw [if_neg (by omega), if_pos]
    rw [List.all_eq_true]
    intro x hx
    exact decide_eq_true (v2 x hx)
  unfold leavesV
  rw [hz, if_pos rfl]
  have : (⟨(leavesB (unLeavesS b).1).toArray⟩ : ByteArray) = b := bl_inj (by rw [bl_of, ← e])
  rw [this]
theorem up_len (b : ByteArray) : (upR b).at'.length ≤ 1024 ∧ (upR b).hs.length ≤ 70000 := by
  by_cases h : pE b = 0
  · obtain ⟨v, e⟩ := proof_only b h
    have hu : upR b = ⟨(pK b).1, (pW b).1, (pSh b).a, (pSh b).b, (pSh b).n, (pSh b).at', (pHs b).1⟩ := by unfold upR; rw [if_pos h]
    rw [hu]
    have hln : (pHs b).1.length ≤ 70000 := by rw [v.ln]; exact num_le v.rf
    refine ⟨?_, hln⟩
    obtain ⟨k1, k2, hn, _, _, hx⟩ := ref_bounds v.rf
    by_cases k4 : (pK b).1 = 4
    · exact (hx k4).1
    · have hb := v.br
      unfold bareP at hb
      rw [if_neg k4] at hb
      show (pSh b).at'.length ≤ 1024
      split at hb
      · rw [hb]; simp
      · rw [hb.2]; simp
  · have hu : upR b = ⟨0, 0, 0, 0, 0, [], []⟩ := by unfold upR; rw [if_neg h]
    rw [hu]
    exact ⟨by simp, by simp⟩
theorem uf_in (b : ByteArray) : i64 (ufR b).lo ∧ i64 (ufR b).hi ∧ (ufR b).hs.length ≤ 122 := by
  have hMX : MX = 4611686018427387904 := rfl
  unfold ufR
  split
  · have h1 := (fL_ok b).2
    have h2 := (fH_ok b).2
    have h3 := (fS_ok b).2
    exact ⟨⟨by show _ ≤ (fL b).1; omega, by show (fL b).1 ≤ _; omega⟩, ⟨by show _ ≤ (fH b).1; omega, by show (fH b).1 ≤ _; omega⟩, h3⟩
  · exact ⟨⟨by decide, by decide⟩, ⟨by decide, by decide⟩, by simp⟩
theorem hl_len (b : ByteArray) : (hL b).length ≤ 256 := by
  unfold hL
  split
  · exact (hS_ok b).2
  · simp
theorem ul_len (b : ByteArray) : (unLeavesL b).length ≤ 1024 := by
  unfold unLeavesL
  split
  · rename_i h; exact (unLeaves_only b h).2.1
  · simp
def agS (b : ByteArray) : ByteArray := if tk b then b else ⟨#[]⟩
def agN (b : ByteArray) : Int := if tk b then 1 else 0
set_option maxRecDepth 100000 in
set_option maxHeartbeats 12800000 in
theorem againC (b : ByteArray) (w : World) (hb : b.size ≤ 140737488355328) (hT : TabB w) :
    Calls Tryd.prog 17 #[.string b] w fun e w' => e = .returned (.tuple #[.string (agS b), .int .i64 (agN b)]) ∧ Below w.heap.size w w' := by
  have TB : Hid (∀ W, Below w.heap.size w W → TabB W) := fun W h => TabB.later hT h
  have UP : Hid (∀ W, Calls _ _ _ (W : World) _) := fun W => unProofC b W hb
  have UF : Hid (∀ W, TabB W → Calls _ _ _ (W : World) _) := fun W h => unFrontierC b W hb h
  have UH : Hid (∀ W, Calls _ _ _ (W : World) _) := fun W => unHashesC b W hb
  have UL : Hid (∀ W, Calls _ _ _ (W : World) _) := fun W => unLeavesC b W hb
  have hup := up_len b
  have huf := uf_in b
  have hhl := hl_len b
  have hul := ul_len b
  have CP : Hid (∀ W va vl vc ha hl hc, ReadsI W (.slice va vl vc) (upR b).at' → ReadsT W (.slice ha hl hc) (upR b).hs → Calls _ _ _ (W : World) _) := fun W va vl vc ha hl hc r t => proofC (upR b).k (upR b).wd (upR b).a (upR b).b (upR b).n va ha vl vc hl hc (upR b).at' (upR b).hs W r t (by omega) (by omega)
  have CF : Hid (∀ W ha hl hc, ReadsT W (.slice ha hl hc) (ufR b).hs → TabB W → Calls _ _ _ (W : World) _) := fun W ha hl hc t tb => frontierC (ufR b).wd (ufR b).lo (ufR b).hi ha hl hc (ufR b).hs W huf.1 huf.2.1 t (by omega) tb
  have CH : Hid (∀ W v, ReadsT W v (hL b) → Calls _ _ _ (W : World) _) := fun W v t => hashesWC (hWd b) v (hL b) W t (by omega)
  have CL : Hid (∀ W v, ReadsT W v (unLeavesL b) → Calls _ _ _ (W : World) _) := fun W v t => leavesC v (unLeavesL b) W t (by omega)
  have AP : Hid (pE b = 0 → _) := again_p (b := b)
  have AF : Hid (fE b = 0 → _) := again_f (b := b)
  have AH : Hid (hE b = 0 → _) := again_h (b := b)
  have AL : Hid (unLeavesE b = 0 → _) := again_l (b := b)
  have NP : Hid (pE b = 0 → fE b ≠ 0 ∧ hE b ≠ 0 ∧ unLeavesE b ≠ 0) := fun h => ⟨fun k => let_ne (let_p h) (let_f k) (by decide), fun k => let_ne (let_p h) (let_h k) (by decide), fun k => let_ne (let_p h) (let_l k) (by decide)⟩
  have NF : Hid (fE b = 0 → hE b ≠ 0 ∧ unLeavesE b ≠ 0) := fun h => ⟨fun k => let_ne (let_f h) (let_h k) (by decide), fun k => let_ne (let_f h) (let_l k) (by decide)⟩
  have NH : Hid (hE b = 0 → unLeavesE b ≠ 0) := fun h k => let_ne (let_h h) (let_l k) (by decide)
  have HT0 : Hid (¬ tk b → agS b = ⟨#[]⟩ ∧ agN b = 0) := fun h => ⟨if_neg h, if_neg h⟩
  have HT1 : Hid (tk b → agS b = b ∧ agN b = 1) := fun h => ⟨if_pos h, if_pos h⟩
  have TKE : Hid (tk b ↔ (pE b = 0 ∨ fE b = 0 ∨ hE b = 0 ∨ unLeavesE b = 0)) := Iff.rfl
  obtain ⟨pk, pw, pa, pb, pn, pat, phs, HPR⟩ : ∃ k wd a bb n at' hs, Hid (upR b = ⟨k, wd, a, bb, n, at', hs⟩) := ⟨_, _, _, _, _, _, _, rfl⟩
  obtain ⟨flo, fhi, fwd, fhs, HFR⟩ : ∃ lo hi wd hs, Hid (ufR b = ⟨lo, hi, wd, hs⟩) := ⟨_, _, _, _, rfl⟩
  rw [HPR.out] at UP CP AP
  rw [HFR.out] at UF CF AF
  obtain ⟨hhs, HHS⟩ : ∃ l, Hid (hL b = l) := ⟨_, rfl⟩
  obtain ⟨hwd, HHW⟩ : ∃ l, Hid (hWd b = l) := ⟨_, rfl⟩
  obtain ⟨lls, HLS⟩ : ∃ l, Hid (unLeavesL b = l) := ⟨_, rfl⟩
  rw [HHS.out] at UH CH AH
  rw [HHW.out] at UH CH AH
  rw [HLS.out] at UL CL AL
  obtain ⟨eP, HEP⟩ : ∃ l, Hid (pE b = l) := ⟨_, rfl⟩
  obtain ⟨eF, HEF⟩ : ∃ l, Hid (fE b = l) := ⟨_, rfl⟩
  obtain ⟨eH, HEH⟩ : ∃ l, Hid (hE b = l) := ⟨_, rfl⟩
  obtain ⟨eL, HEL⟩ : ∃ l, Hid (unLeavesE b = l) := ⟨_, rfl⟩
  rw [HEP.out] at UP AP NP
  rw [HEF.out] at UF AF NP NF
  rw [HEH.out] at UH AH NP NF NH
  rw [HEL.out] at UL AL NP NF NH
  rw [HEP.out, HEF.out, HEH.out, HEL.out] at TKE
  clear hup huf hhl hul hT HEP HEF HEH HEL HPR HFR HHS HHW HLS
  by_cases hP : eP = 0
  · have hF := (NP.out hP).1
    have hH := (NP.out hP).2.1
    have hL := (NP.out hP).2.2
    have htk : tk b := TKE.out.2 (by simp [hP])
    rw [(HT1.out htk).1, (HT1.out htk).2]
    rw [AP.out hP] at CP
    have qP : (eP == 0) = true := by simp [hP]
    have qF : (eF == 0) = false := by simp [hF]
    have qH : (eH == 0) = false := by simp [hH]
    have qL : (eL == 0) = false := by simp [hL]
    clear htk hP hF hH hL AP AF AH AL NP NF NH HT0 HT1 TKE
    go_enter Tryd.func17, Tryd.ntmps17
    go_upto_region 4 with (go_at_call 22; refine (UP.out _).mono ?_; rintro _ w1 ⟨⟨va, vl, vc, ha, hl, hc, rfl, o1, p1⟩, k1⟩; have R1 : Hid (ReadsI w1 (.slice va vl vc) pat ∧ ReadsT w1 (.slice ha hl hc) phs) := ⟨own_readsI o1, own_readsT p1⟩; have B1 : Hid (Below w.heap.size w w1) := k1; clear o1 p1 k1)
    obtain ⟨W1, HW1⟩ : ∃ W, W = w1.alloc (.cells #[.int .i64 pk, .int .i64 pw, .int .i64 pa, .int .i64 pb, .int .i64 pn, .slice va vl vc, .slice ha hl hc] 49) := ⟨_, rfl⟩
    have hc1 : W1.heap[w1.heap.size]? = some (.cells #[.int .i64 pk, .int .i64 pw, .int .i64 pa, .int .i64 pb, .int .i64 pn, .slice va vl vc, .slice ha hl hc] 49 (0, 0)) := by rw [HW1]; exact heap_alloc_new w1 _
    have B11 : Hid (Below w1.heap.size w1 W1) := by rw [HW1]; exact (Below.refl _ _).alloc (Nat.le_refl _) _
    have BW1 : Hid (Below w.heap.size w W1) := below2 B1.out B11.out (Nat.le_refl _)
    rw [← HW1]
    clear HW1
    obtain ⟨c0, c1, c2, c3, c4, c5, c6⟩ := seven hc1
    clear hc1
    go_upto_region 8 with (first
      | (go_at_call 9; refine (num _ _).mono ?_; rintro _ wz ⟨rfl, hz⟩; rw [hz]; clear hz)
      | (go_at_call 21; refine (CP.out _ _ _ _ _ _ _ (R1.out.1.later B11.out) (R1.out.2.later B11.out)).mono ?_; rintro _ w2 ⟨rfl, k2⟩; have B2 : Hid (Below w.heap.size w w2) := below2 BW1.out k2 (Nat.le_refl _); clear k2)
      | (go_at_call 11; refine (UF.out _ (TB.out _ B2.out)).mono ?_; rintro _ w3 ⟨⟨fa, fl, fc, rfl, o3⟩, k3⟩; have R3 : Hid (ReadsT w3 (.slice fa fl fc) fhs) := own_readsT o3; have B3 : Hid (Below w.heap.size w w3) := below2 B2.out k3 (Nat.le_refl _); clear o3 k3))
    obtain ⟨W3, HW3⟩ : ∃ W, W = w3.alloc (.cells #[.int .i64 flo, .int .i64 fhi, .slice fa fl fc] 24) := ⟨_, rfl⟩
    have hc3 : W3.heap[w3.heap.size]? = some (.cells #[.int .i64 flo, .int .i64 fhi, .slice fa fl fc] 24 (0, 0)) := by rw [HW3]; exact heap_alloc_new w3 _
    have B33 : Hid (Below w3.heap.size w3 W3) := by rw [HW3]; exact (Below.refl _ _).alloc (Nat.le_refl _) _
    have BW3 : Hid (Below w.heap.size w W3) := below2 B3.out B33.out (Nat.le_refl _)
    rw [← HW3]
    clear HW3 c0 c1 c2 c3 c4 c5 c6
    obtain ⟨c0, c1, c2⟩ := three hc3
    clear hc3
    go_wp2_with (first
      | (go_at_call 9; refine (num _ _).mono ?_; rintro _ wz ⟨rfl, hz⟩; rw [hz]; clear hz)
      | (go_at_call 27; refine (UH.out _).mono ?_; rintro _ w5 ⟨⟨xa, xl, xc, rfl, o5⟩, k5⟩; have R5 : Hid (ReadsT w5 (.slice xa xl xc) hhs) := own_readsT o5; have B5 : Hid (Below w.heap.size w w5) := below2 BW3.out k5 (Nat.le_refl _); clear o5 k5)
      | (go_at_call 18; refine (UL.out _).mono ?_; rintro _ w7 ⟨⟨v7, rfl, o7⟩, k7⟩; have R7 : Hid (ReadsT w7 v7 lls) := own_readsT o7; have B7 : Hid (Below w.heap.size w w7) := below2 B5.out k7 (Nat.le_refl _); clear o7 k7))
    go_ret2
    exact ⟨rfl, B7.out⟩
  · by_cases hF : eF = 0
    · have hH := (NF.out hF).1
      have hL := (NF.out hF).2
      have htk : tk b := TKE.out.2 (by simp [hF])
      rw [(HT1.out htk).1, (HT1.out htk).2]
      rw [AF.out hF] at CF
      have qP : (eP == 0) = false := by simp [hP]
      have qF : (eF == 0) = true := by simp [hF]
      have qH : (eH == 0) = false := by simp [hH]
      have qL : (eL == 0) = false := by simp [hL]
      clear htk hP hF hH hL AP AF AH AL NP NF NH HT0 HT1 TKE
      go_enter Tryd.func17, Tryd.ntmps17
      go_upto_region 4 with (go_at_call 22; refine (UP.out _).mono ?_; rintro _ w1 ⟨⟨va, vl, vc, ha, hl, hc, rfl, o1, p1⟩, k1⟩; have R1 : Hid (ReadsI w1 (.slice va vl vc) pat ∧ ReadsT w1 (.slice ha hl hc) phs) := ⟨own_readsI o1, own_readsT p1⟩; have B1 : Hid (Below w.heap.size w w1) := k1; clear o1 p1 k1)
      obtain ⟨W1, HW1⟩ : ∃ W, W = w1.alloc (.cells #[.int .i64 pk, .int .i64 pw, .int .i64 pa, .int .i64 pb, .int .i64 pn, .slice va vl vc, .slice ha hl hc] 49) := ⟨_, rfl⟩
      have hc1 : W1.heap[w1.heap.size]? = some (.cells #[.int .i64 pk, .int .i64 pw, .int .i64 pa, .int .i64 pb, .int .i64 pn, .slice va vl vc, .slice ha hl hc] 49 (0, 0)) := by rw [HW1]; exact heap_alloc_new w1 _
      have B11 : Hid (Below w1.heap.size w1 W1) := by rw [HW1]; exact (Below.refl _ _).alloc (Nat.le_refl _) _
      have BW1 : Hid (Below w.heap.size w W1) := below2 B1.out B11.out (Nat.le_refl _)
      rw [← HW1]
      clear HW1
      obtain ⟨c0, c1, c2, c3, c4, c5, c6⟩ := seven hc1
      clear hc1
      go_upto_region 8 with (first
        | (go_at_call 9; refine (num _ _).mono ?_; rintro _ wz ⟨rfl, hz⟩; rw [hz]; clear hz)
        | (go_at_call 11; refine (UF.out _ (TB.out _ BW1.out)).mono ?_; rintro _ w3 ⟨⟨fa, fl, fc, rfl, o3⟩, k3⟩; have R3 : Hid (ReadsT w3 (.slice fa fl fc) fhs) := own_readsT o3; have B3 : Hid (Below w.heap.size w w3) := below2 BW1.out k3 (Nat.le_refl _); clear o3 k3))
      obtain ⟨W3, HW3⟩ : ∃ W, W = w3.alloc (.cells #[.int .i64 flo, .int .i64 fhi, .slice fa fl fc] 24) := ⟨_, rfl⟩
      have hc3 : W3.heap[w3.heap.size]? = some (.cells #[.int .i64 flo, .int .i64 fhi, .slice fa fl fc] 24 (0, 0)) := by rw [HW3]; exact heap_alloc_new w3 _
      have B33 : Hid (Below w3.heap.size w3 W3) := by rw [HW3]; exact (Below.refl _ _).alloc (Nat.le_refl _) _
      have BW3 : Hid (Below w.heap.size w W3) := below2 B3.out B33.out (Nat.le_refl _)
      rw [← HW3]
      clear HW3 c0 c1 c2 c3 c4 c5 c6
      obtain ⟨c0, c1, c2⟩ := three hc3
      clear hc3
      go_wp2_with (first
        | (go_at_call 9; refine (num _ _).mono ?_; rintro _ wz ⟨rfl, hz⟩; rw [hz]; clear hz)
        | (go_at_call 7; refine (CF.out _ _ _ _ (R3.out.later B33.out) (TB.out _ BW3.out)).mono ?_; rintro _ w4 ⟨rfl, k4⟩; have B4 : Hid (Below w.heap.size w w4) := below2 BW3.out k4 (Nat.le_refl _); clear k4)
        | (go_at_call 27; refine (UH.out _).mono ?_; rintro _ w5 ⟨⟨xa, xl, xc, rfl, o5⟩, k5⟩; have R5 : Hid (ReadsT w5 (.slice xa xl xc) hhs) := own_readsT o5; have B5 : Hid (Below w.heap.size w w5) := below2 B4.out k5 (Nat.le_refl _); clear o5 k5)
        | (go_at_call 18; refine (UL.out _).mono ?_; rintro _ w7 ⟨⟨v7, rfl, o7⟩, k7⟩; have R7 : Hid (ReadsT w7 v7 lls) := own_readsT o7; have B7 : Hid (Below w.heap.size w w7) := below2 B5.out k7 (Nat.le_refl _); clear o7 k7))
      go_ret2
      exact ⟨rfl, B7.out⟩
    · by_cases hH : eH = 0
      · have hL := NH.out hH
        have htk : tk b := TKE.out.2 (by simp [hH])
        rw [(HT1.out htk).1, (HT1.out htk).2]
        rw [AH.out hH] at CH
        have qP : (eP == 0) = false := by simp [hP]
        have qF : (eF == 0) = false := by simp [hF]
        have qH : (eH == 0) = true := by simp [hH]
        have qL : (eL == 0) = false := by simp [hL]
        clear htk hP hF hH hL AP AF AH AL NP NF NH HT0 HT1 TKE
        go_enter Tryd.func17, Tryd.ntmps17
        go_upto_region 4 with (go_at_call 22; refine (UP.out _).mono ?_; rintro _ w1 ⟨⟨va, vl, vc, ha, hl, hc, rfl, o1, p1⟩, k1⟩; have R1 : Hid (ReadsI w1 (.slice va vl vc) pat ∧ ReadsT w1 (.slice ha hl hc) phs) := ⟨own_readsI o1, own_readsT p1⟩; have B1 : Hid (Below w.heap.size w w1) := k1; clear o1 p1 k1)
        obtain ⟨W1, HW1⟩ : ∃ W, W = w1.alloc (.cells #[.int .i64 pk, .int .i64 pw, .int .i64 pa, .int .i64 pb, .int .i64 pn, .slice va vl vc, .slice ha hl hc] 49) := ⟨_, rfl⟩
        have hc1 : W1.heap[w1.heap.size]? = some (.cells #[.int .i64 pk, .int .i64 pw, .int .i64 pa, .int .i64 pb, .int .i64 pn, .slice va vl vc, .slice ha hl hc] 49 (0, 0)) := by rw [HW1]; exact heap_alloc_new w1 _
        have B11 : Hid (Below w1.heap.size w1 W1) := by rw [HW1]; exact (Below.refl _ _).alloc (Nat.le_refl _) _
        have BW1 : Hid (Below w.heap.size w W1) := below2 B1.out B11.out (Nat.le_refl _)
        rw [← HW1]
        clear HW1
        obtain ⟨c0, c1, c2, c3, c4, c5, c6⟩ := seven hc1
        clear hc1
        go_upto_region 8 with (first
          | (go_at_call 9; refine (num _ _).mono ?_; rintro _ wz ⟨rfl, hz⟩; rw [hz]; clear hz)
          | (go_at_call 11; refine (UF.out _ (TB.out _ BW1.out)).mono ?_; rintro _ w3 ⟨⟨fa, fl, fc, rfl, o3⟩, k3⟩; have R3 : Hid (ReadsT w3 (.slice fa fl fc) fhs) := own_readsT o3; have B3 : Hid (Below w.heap.size w w3) := below2 BW1.out k3 (Nat.le_refl _); clear o3 k3))
        obtain ⟨W3, HW3⟩ : ∃ W, W = w3.alloc (.cells #[.int .i64 flo, .int .i64 fhi, .slice fa fl fc] 24) := ⟨_, rfl⟩
        have hc3 : W3.heap[w3.heap.size]? = some (.cells #[.int .i64 flo, .int .i64 fhi, .slice fa fl fc] 24 (0, 0)) := by rw [HW3]; exact heap_alloc_new w3 _
        have B33 : Hid (Below w3.heap.size w3 W3) := by rw [HW3]; exact (Below.refl _ _).alloc (Nat.le_refl _) _
        have BW3 : Hid (Below w.heap.size w W3) := below2 B3.out B33.out (Nat.le_refl _)
        rw [← HW3]
        clear HW3 c0 c1 c2 c3 c4 c5 c6
        obtain ⟨c0, c1, c2⟩ := three hc3
        clear hc3
        go_wp2_with (first
          | (go_at_call 9; refine (num _ _).mono ?_; rintro _ wz ⟨rfl, hz⟩; rw [hz]; clear hz)
          | (go_at_call 27; refine (UH.out _).mono ?_; rintro _ w5 ⟨⟨xa, xl, xc, rfl, o5⟩, k5⟩; have R5 : Hid (ReadsT w5 (.slice xa xl xc) hhs) := own_readsT o5; have B5 : Hid (Below w.heap.size w w5) := below2 BW3.out k5 (Nat.le_refl _); clear o5 k5)
          | (go_at_call 26; refine (CH.out _ _ R5.out).mono ?_; rintro _ w6 ⟨rfl, k6⟩; have B6 : Hid (Below w.heap.size w w6) := below2 B5.out k6 (Nat.le_refl _); clear k6)
          | (go_at_call 18; refine (UL.out _).mono ?_; rintro _ w7 ⟨⟨v7, rfl, o7⟩, k7⟩; have R7 : Hid (ReadsT w7 v7 lls) := own_readsT o7; have B7 : Hid (Below w.heap.size w w7) := below2 B6.out k7 (Nat.le_refl _); clear o7 k7))
        go_ret2
        exact ⟨rfl, B7.out⟩
      · by_cases hL : eL = 0
        · skip
          have htk : tk b := TKE.out.2 (by simp [hL])
          rw [(HT1.out htk).1, (HT1.out htk).2]
          rw [AL.out hL] at CL
          have qP : (eP == 0) = false := by simp [hP]
          have qF : (eF == 0) = false := by simp [hF]
          have qH : (eH == 0) = false := by simp [hH]
          have qL : (eL == 0) = true := by simp [hL]
          clear htk hP hF hH hL AP AF AH AL NP NF NH HT0 HT1 TKE
          go_enter Tryd.func17, Tryd.ntmps17
          go_upto_region 4 with (go_at_call 22; refine (UP.out _).mono ?_; rintro _ w1 ⟨⟨va, vl, vc, ha, hl, hc, rfl, o1, p1⟩, k1⟩; have R1 : Hid (ReadsI w1 (.slice va vl vc) pat ∧ ReadsT w1 (.slice ha hl hc) phs) := ⟨own_readsI o1, own_readsT p1⟩; have B1 : Hid (Below w.heap.size w w1) := k1; clear o1 p1 k1)
          obtain ⟨W1, HW1⟩ : ∃ W, W = w1.alloc (.cells #[.int .i64 pk, .int .i64 pw, .int .i64 pa, .int .i64 pb, .int .i64 pn, .slice va vl vc, .slice ha hl hc] 49) := ⟨_, rfl⟩
          have hc1 : W1.heap[w1.heap.size]? = some (.cells #[.int .i64 pk, .int .i64 pw, .int .i64 pa, .int .i64 pb, .int .i64 pn, .slice va vl vc, .slice ha hl hc] 49 (0, 0)) := by rw [HW1]; exact heap_alloc_new w1 _
          have B11 : Hid (Below w1.heap.size w1 W1) := by rw [HW1]; exact (Below.refl _ _).alloc (Nat.le_refl _) _
          have BW1 : Hid (Below w.heap.size w W1) := below2 B1.out B11.out (Nat.le_refl _)
          rw [← HW1]
          clear HW1
          obtain ⟨c0, c1, c2, c3, c4, c5, c6⟩ := seven hc1
          clear hc1
          go_upto_region 8 with (first
            | (go_at_call 9; refine (num _ _).mono ?_; rintro _ wz ⟨rfl, hz⟩; rw [hz]; clear hz)
            | (go_at_call 11; refine (UF.out _ (TB.out _ BW1.out)).mono ?_; rintro _ w3 ⟨⟨fa, fl, fc, rfl, o3⟩, k3⟩; have R3 : Hid (ReadsT w3 (.slice fa fl fc) fhs) := own_readsT o3; have B3 : Hid (Below w.heap.size w w3) := below2 BW1.out k3 (Nat.le_refl _); clear o3 k3))
          obtain ⟨W3, HW3⟩ : ∃ W, W = w3.alloc (.cells #[.int .i64 flo, .int .i64 fhi, .slice fa fl fc] 24) := ⟨_, rfl⟩
          have hc3 : W3.heap[w3.heap.size]? = some (.cells #[.int .i64 flo, .int .i64 fhi, .slice fa fl fc] 24 (0, 0)) := by rw [HW3]; exact heap_alloc_new w3 _
          have B33 : Hid (Below w3.heap.size w3 W3) := by rw [HW3]; exact (Below.refl _ _).alloc (Nat.le_refl _) _
          have BW3 : Hid (Below w.heap.size w W3) := below2 B3.out B33.out (Nat.le_refl _)
          rw [← HW3]
          clear HW3 c0 c1 c2 c3 c4 c5 c6
          obtain ⟨c0, c1, c2⟩ := three hc3
          clear hc3
          go_wp2_with (first
            | (go_at_call 9; refine (num _ _).mono ?_; rintro _ wz ⟨rfl, hz⟩; rw [hz]; clear hz)
            | (go_at_call 27; refine (UH.out _).mono ?_; rintro _ w5 ⟨⟨xa, xl, xc, rfl, o5⟩, k5⟩; have R5 : Hid (ReadsT w5 (.slice xa xl xc) hhs) := own_readsT o5; have B5 : Hid (Below w.heap.size w w5) := below2 BW3.out k5 (Nat.le_refl _); clear o5 k5)
            | (go_at_call 18; refine (UL.out _).mono ?_; rintro _ w7 ⟨⟨v7, rfl, o7⟩, k7⟩; have R7 : Hid (ReadsT w7 v7 lls) := own_readsT o7; have B7 : Hid (Below w.heap.size w w7) := below2 B5.out k7 (Nat.le_refl _); clear o7 k7)
            | (go_at_call 28; refine (CL.out _ _ R7.out).mono ?_; rintro _ w8 ⟨rfl, k8⟩; have B8 : Hid (Below w.heap.size w w8) := below2 B7.out k8 (Nat.le_refl _); clear k8))
          go_ret2
          exact ⟨rfl, B8.out⟩
        · skip
          have htk : ¬ tk b := fun h => (TKE.out.1 h).elim hP (fun h => h.elim hF (fun h => h.elim hH hL))
          rw [(HT0.out htk).1, (HT0.out htk).2]
          have qP : (eP == 0) = false := by simp [hP]
          have qF : (eF == 0) = false := by simp [hF]
          have qH : (eH == 0) = false := by simp [hH]
          have qL : (eL == 0) = false := by simp [hL]
          clear htk hP hF hH hL AP AF AH AL NP NF NH HT0 HT1 TKE
          go_enter Tryd.func17, Tryd.ntmps17
          go_upto_region 4 with (go_at_call 22; refine (UP.out _).mono ?_; rintro _ w1 ⟨⟨va, vl, vc, ha, hl, hc, rfl, o1, p1⟩, k1⟩; have R1 : Hid (ReadsI w1 (.slice va vl vc) pat ∧ ReadsT w1 (.slice ha hl hc) phs) := ⟨own_readsI o1, own_readsT p1⟩; have B1 : Hid (Below w.heap.size w w1) := k1; clear o1 p1 k1)
          obtain ⟨W1, HW1⟩ : ∃ W, W = w1.alloc (.cells #[.int .i64 pk, .int .i64 pw, .int .i64 pa, .int .i64 pb, .int .i64 pn, .slice va vl vc, .slice ha hl hc] 49) := ⟨_, rfl⟩
          have hc1 : W1.heap[w1.heap.size]? = some (.cells #[.int .i64 pk, .int .i64 pw, .int .i64 pa, .int .i64 pb, .int .i64 pn, .slice va vl vc, .slice ha hl hc] 49 (0, 0)) := by rw [HW1]; exact heap_alloc_new w1 _
          have B11 : Hid (Below w1.heap.size w1 W1) := by rw [HW1]; exact (Below.refl _ _).alloc (Nat.le_refl _) _
          have BW1 : Hid (Below w.heap.size w W1) := below2 B1.out B11.out (Nat.le_refl _)
          rw [← HW1]
          clear HW1
          obtain ⟨c0, c1, c2, c3, c4, c5, c6⟩ := seven hc1
          clear hc1
          go_upto_region 8 with (first
            | (go_at_call 9; refine (num _ _).mono ?_; rintro _ wz ⟨rfl, hz⟩; rw [hz]; clear hz)
            | (go_at_call 11; refine (UF.out _ (TB.out _ BW1.out)).mono ?_; rintro _ w3 ⟨⟨fa, fl, fc, rfl, o3⟩, k3⟩; have R3 : Hid (ReadsT w3 (.slice fa fl fc) fhs) := own_readsT o3; have B3 : Hid (Below w.heap.size w w3) := below2 BW1.out k3 (Nat.le_refl _); clear o3 k3))
          obtain ⟨W3, HW3⟩ : ∃ W, W = w3.alloc (.cells #[.int .i64 flo, .int .i64 fhi, .slice fa fl fc] 24) := ⟨_, rfl⟩
          have hc3 : W3.heap[w3.heap.size]? = some (.cells #[.int .i64 flo, .int .i64 fhi, .slice fa fl fc] 24 (0, 0)) := by rw [HW3]; exact heap_alloc_new w3 _
          have B33 : Hid (Below w3.heap.size w3 W3) := by rw [HW3]; exact (Below.refl _ _).alloc (Nat.le_refl _) _
          have BW3 : Hid (Below w.heap.size w W3) := below2 B3.out B33.out (Nat.le_refl _)
          rw [← HW3]
          clear HW3 c0 c1 c2 c3 c4 c5 c6
          obtain ⟨c0, c1, c2⟩ := three hc3
          clear hc3
          go_wp2_with (first
            | (go_at_call 9; refine (num _ _).mono ?_; rintro _ wz ⟨rfl, hz⟩; rw [hz]; clear hz)
            | (go_at_call 27; refine (UH.out _).mono ?_; rintro _ w5 ⟨⟨xa, xl, xc, rfl, o5⟩, k5⟩; have R5 : Hid (ReadsT w5 (.slice xa xl xc) hhs) := own_readsT o5; have B5 : Hid (Below w.heap.size w w5) := below2 BW3.out k5 (Nat.le_refl _); clear o5 k5)
            | (go_at_call 18; refine (UL.out _).mono ?_; rintro _ w7 ⟨⟨v7, rfl, o7⟩, k7⟩; have R7 : Hid (ReadsT w7 v7 lls) := own_readsT o7; have B7 : Hid (Below w.heap.size w w7) := below2 B5.out k7 (Nat.le_refl _); clear o7 k7))
          go_ret2
          exact ⟨rfl, B7.out⟩
set_option maxRecDepth 100000 in
set_option maxHeartbeats 3200000 in
theorem only_walk {w : World} (b : ByteArray) (hb : b.size ≤ 140737488351232) (cut : Int) (hc : i64 cut) (hT : TabB w) :
    Calls Tryd.prog 4 #[.string b, .int .i64 cut] w fun e w' => e = .returned (.bool true) ∧ Below w.heap.size w w' := by
  have AG : Hid (Calls _ _ _ _ _) := againC b w (by omega) hT
  by_cases ht : tk b
  · rw [show agS b = b from if_pos ht, show agN b = 1 from if_pos ht] at AG
    have hne : b.size ≠ 0 := by
      intro e
      have key : ∀ c : UInt8, ¬ ∃ t, bl b = c :: t := fun c ⟨t, h⟩ => by
        have := congrArg List.length h
        rw [bl_len, List.length_cons] at this
        omega
      rcases ht with h | h | h | h
      · exact key _ (let_p h)
      · exact key _ (let_f h)
      · exact key _ (let_h h)
      · exact key _ (let_l h)
    have PK : Hid (∀ w : World, Calls _ _ _ _ _) := fun w => pickC cut (b.size : Int) w hc.1 hc.2 (by omega) (by omega)
    have p0 := Int.emod_nonneg cut (show (b.size : Int) ≠ 0 by omega)
    have p1 := Int.emod_lt_of_pos cut (show 0 < (b.size : Int) by omega)
    obtain ⟨q, hq⟩ : ∃ q : Nat, cut % (b.size : Int) = q := ⟨(cut % (b.size : Int)).toNat, by omega⟩
    rw [hq] at PK p1
    have hq1 : (q : Int) ≤ b.size := by omega
    have hql : q < b.size := by omega
    have h1 : ¬ tk (b.extract 0 q) := fun h => by
      have e : bl b = bl (b.extract 0 q) ++ (bl b).drop q := by rw [bl_ext, List.drop_zero, Nat.sub_zero, List.take_append_drop]
      have e2 := tk_ext h e ht
      have e3 := congrArg List.length e2
      rw [List.length_drop, bl_len] at e3
      simp at e3
      omega
    have A1 : Hid (∀ W, Below w.heap.size w W → Calls _ _ _ (W : World) _) := fun W h => againC (b.extract 0 q) W (by rw [ByteArray.size_extract]; omega) (TabB.later hT h)
    rw [show agN (b.extract 0 q) = 0 from if_neg h1] at A1
    have h2 : ¬ tk (b ++ str [cut % 256]) := fun h => by
      have e2 := tk_ext ht (bl_app b (str [cut % 256])) h
      have e3 := congrArg List.length e2
      rw [bl_len, str_size] at e3
      simp at e3
    have hst : (str [cut % 256]).size = 1 := str_size _
    have A2 : Hid (∀ W, Below w.heap.size w W → Calls _ _ _ (W : World) _) := fun W h => againC (b ++ str [cut % 256]) W (by rw [ByteArray.size_append, hst]; omega) (TabB.later hT h)
    rw [show agN (b ++ str [cut % 256]) = 0 from if_neg h2] at A2
    have g1 : (b.toList != b.toList) = false := by simp
    have g2 : (b.toList == b.toList) = true := by simp
    have g3 : (b.toList == []) = false := by
      rw [beqLit]
      exact decide_eq_false (fun e => hne (by rw [e]; rfl))
    have hu8 : IntKind.u8.wrap cut = cut % 256 := by rw [IntKind.wrap_u8]
    have hcv := conv_one
    obtain ⟨S1, HS1⟩ : ∃ s, Hid (agS (b.extract 0 q) = s) := ⟨_, rfl⟩
    obtain ⟨S2, HS2⟩ : ∃ s, Hid (agS (b ++ str [cut % 256]) = s) := ⟨_, rfl⟩
    rw [HS1.out] at A1
    rw [HS2.out] at A2
    clear h1 h2 hne hq ht hql
    go_enter Tryd.func4, Tryd.ntmps4
    go_upto_region 9 with (go_at_call 17; refine AG.out.mono ?_; rintro _ w1 ⟨rfl, k1⟩; have B1 : Hid (Below w.heap.size w w1) := k1; clear k1)
    go_upto_region 10 with (first
      | (go_at_call 19; refine (PK.out _).mono ?_; rintro _ wz ⟨rfl, hz⟩; rw [hz]; clear hz)
      | (go_at_call 17; refine (A1.out _ B1.out).mono ?_; rintro _ w2 ⟨rfl, k2⟩; have B2 : Hid (Below w.heap.size w w2) := below2 B1.out k2 (Nat.le_refl _); clear k2))
    have BA : Hid (Below w.heap.size w (w2.alloc (.cells #[.int .u8 (cut % 256)] 5))) := B2.out.alloc B2.out.size _
    go_wp2_with (go_at_call 17; refine (A2.out _ BA.out).mono ?_; rintro _ w3 ⟨rfl, k3⟩; have B3 : Hid (Below w.heap.size w w3) := below2 BA.out k3 (Nat.le_refl _); clear k3)
    go_ret
    exact ⟨rfl, B3.out⟩
  · rw [show agS b = ⟨#[]⟩ from if_neg ht, show agN b = 0 from if_neg ht] at AG
    have UL : Hid (∀ W, Calls _ _ _ (W : World) _) := fun W => unLeavesC ⟨#[76, 0]⟩ W (by decide)
    have hz : unLeavesE ⟨#[76, 0]⟩ = 0 ∧ unLeavesL ⟨#[76, 0]⟩ = [] := by
      have h := unLeaves_back ⟨#[76, 0]⟩ [] [] (by decide) (by simp) (fun x hx => absurd hx (List.not_mem_nil))
      have hE : unLeavesE ⟨#[76, 0]⟩ = 0 := by unfold unLeavesE; rw [h]; decide
      exact ⟨hE, by unfold unLeavesL; rw [if_pos hE, h]⟩
    rw [hz.1, hz.2] at UL
    clear hz ht
    go_enter Tryd.func4, Tryd.ntmps4
    go_wp2_with (first
      | (go_at_call 17; refine AG.out.mono ?_; rintro _ w1 ⟨rfl, k1⟩; have B1 : Hid (Below w.heap.size w w1) := k1; clear k1)
      | (go_at_call 18; refine (UL.out _).mono ?_; rintro _ w2 ⟨⟨v7, rfl, o7⟩, k7⟩; obtain ⟨ya, yc, hv7⟩ := own_formS o7; subst hv7; have B2 : Hid (Below w.heap.size w w2) := below2 B1.out k7 (Nat.le_refl _); clear o7 k7)
      | (go_at_call 9; refine (num _ _).mono ?_; rintro _ wz ⟨rfl, hz⟩; rw [hz]; clear hz))
    go_ret
    exact ⟨rfl, B2.out⟩
end Go.Proofs.YthpfgdhmpeadeaaDoor.w4

namespace Go.Proofs.YthpfgdhmpeadeaaDoor.cv
open Go.RowKit Go.PlainAid
open Go.Proofs.YthpfgdhmpeadeaaDoor.cp
theorem fits64 (a : Int) (h : (Lit.int .i64 a).wf = true) : -9223372036854775808 ≤ a ∧ a ≤ 9223372036854775807 := by
  simp only [Lit.wf, Bool.and_eq_true, decide_eq_true_eq] at h
  obtain ⟨h1, h2⟩ := h
  have e1 : IntKind.i64.min = -9223372036854775808 := by decide
  have e2 : IntKind.i64.max = 9223372036854775807 := by decide
  omega
set_option maxRecDepth 100000 in
theorem i64_of {a : Int} (h : (Lit.int .i64 a).wf = true) : i64 a := fits64 a h
end Go.Proofs.YthpfgdhmpeadeaaDoor.cv

namespace Go.Proofs.YthpfgdhmpeadeaaDoor.wo
open Go.RowKit Go.Proofs.YthpfgdhmpeadeaaDoor.xc Go.Proofs.YthpfgdhmpeadeaaDoor.cv Go.Proofs.YthpfgdhmpeadeaaDoor.w4
theorem only (a0 : ByteArray) (a1 : Int) (w1 : (Lit.int .i64 a1).wf = true) (z0 : a0.size ≤ 140737488351232) (w : World) (tabs : TabB w) :
    Calls Tryd.prog 4 #[.string a0, .int .i64 a1] w fun e w' => e = .returned (.bool true) ∧ Below w.heap.size w w' :=
  only_walk a0 z0 a1 (i64_of w1) tabs
end Go.Proofs.YthpfgdhmpeadeaaDoor.wo
