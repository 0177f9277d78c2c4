import Derived.Test.YtgkhnjmbmbebiabDoorG6
import Derived.Test.YtgkhnjmbmbebiabDoorG4
import Derived.Test.YtgkhnjmbmbebiabDoorG3
namespace Go.Proofs.YtgkhnjmbmbebiabDoor.lu
open Go.RowKit Go.PlainAid
open Go.Proofs.YtgkhnjmbmbebiabDoor.pj Go.Proofs.YtgkhnjmbmbebiabDoor.rf Go.Proofs.YtgkhnjmbmbebiabDoor.ca Go.Proofs.YtgkhnjmbmbebiabDoor.cp Go.Proofs.YtgkhnjmbmbebiabDoor.cv Go.Proofs.YtgkhnjmbmbebiabDoor.ka Go.Proofs.YtgkhnjmbmbebiabDoor.mi Go.Proofs.YtgkhnjmbmbebiabDoor.df Go.Proofs.YtgkhnjmbmbebiabDoor.qm Go.Proofs.YtgkhnjmbmbebiabDoor.qn
set_option linter.unusedVariables false

set_option maxHeartbeats 3200000 in
theorem multi_walk (w : World) (wd : Int) (w0 : (Lit.int .i64 wd).wf = true) (n : Int) (w1 : (Lit.int .i64 n).wf = true) (v : Value) (xs : List Int) (hv : ReadsI w v xs) (vno : ∀ k c, v = .slice none k c → c = 0) (vz : xs.length * 8 ≤ 140737488351232) (vh : Value) (hs : List ByteArray) (hh : ReadsT w vh hs) (hno : ∀ k c, vh = .slice none k c → c = 0) (hhs : ∀ x ∈ hs, x.size ≤ 140737488351232) (hz : hs.length * 16 ≤ 140737488351232) (vp : Value) (ps : List ByteArray) (hp : ReadsT w vp ps) (pno : ∀ k c, vp = .slice none k c → c = 0) (hps : ∀ x ∈ ps, x.size ≤ 140737488351232) (pz : ps.length * 16 ≤ 140737488351232) (root : ByteArray) (zr : root.size ≤ 140737488351232) (T : Tab4 w) :
    Calls Tryd.prog 5 #[.int .i64 wd, .int .i64 n, v, vh, vp, .string root] w fun e w' => e = .returned (.bool true) ∧ Below w.heap.size w w' := by
  have hwd := i64_of w0
  have TA : Hid (Calls _ _ _ _ _) := ts.twinC vh hs w hh hno hz
  have TB' : Hid (∀ w', Below w.heap.size w w' → Calls _ _ _ _ _) := fun w' hb => ts.twinC vp ps w' (hp.later hb) pno pz
  have TC : Hid (∀ w', Below w.heap.size w w' → Calls _ _ _ _ _) := fun w' hb => ti.twinC v xs w' (hv.later hb) vno vz
  have PM : Hid (∀ w' a b c, ReadsI w' c xs → ReadsT w' a hs → ReadsT w' b ps → Tab w' → Calls _ _ _ _ _) := fun w' a b c h1 h2 h3 t => MultiC wd n hwd c xs a b hs ps root w' h1 h2 h3 (by omega) (by omega) (by omega) t
  have DM : Hid (∀ w', Below w.heap.size w w' → Calls _ _ _ _ _) := fun w' hb => rMulti wd n v xs vh vp hs ps root w' (hv.later hb) (hh.later hb) (hp.later hb) (by omega) hz (by omega) (T.down hb)
  have KA : Hid (∀ B g cp w', Below w.heap.size w w' → ts.Tw w' B g hs.length cp hs → Calls _ _ _ _ _) := fun B g cp w' hb h1 => sk.keptC B g hs.length cp vh hs w' rfl h1 (hh.later hb) (by omega)
  have KB : Hid (∀ B g cp w', Below w.heap.size w w' → ts.Tw w' B g ps.length cp ps → Calls _ _ _ _ _) := fun B g cp w' hb h1 => sk.keptC B g ps.length cp vp ps w' rfl h1 (hp.later hb) (by omega)
  have KC : Hid (∀ B g cp w', Below w.heap.size w w' → ti.Tw w' B g xs.length cp xs → Calls _ _ _ _ _) := fun B g cp w' hb h1 => si.keptC B g xs.length cp v xs w' rfl h1 (hv.later hb) (by omega)
  have HT : Hid (Tab4 w) := T
  obtain ⟨va, vc, rfl, _⟩ := hv
  obtain ⟨ha, hc, rfl, _⟩ := hh
  obtain ⟨pa, pc, rfl, _⟩ := hp
  obtain ⟨l, HL⟩ : ∃ l, Hid (xs.length = l) := ⟨_, rfl⟩
  obtain ⟨lh, HLH⟩ : ∃ l, Hid (hs.length = l) := ⟨_, rfl⟩
  obtain ⟨lp, HLP⟩ : ∃ l, Hid (ps.length = l) := ⟨_, rfl⟩
  obtain ⟨d, HD⟩ : ∃ d, Hid (mulA wd n xs hs ps root = d) := ⟨_, rfl⟩
  rw [HD.out] at PM DM
  rw [HL.out] at TC DM KC ⊢
  rw [HLH.out] at TA DM KA ⊢
  rw [HLP.out] at TB' DM KB ⊢
  have q : (d == d) = true := beq_self_eq_true _
  clear vno vz hno hhs hz pno hps pz zr w0 w1 hwd T
  go_enter Tryd.func5, Tryd.ntmps5
  go_wp2_with fail
  refine TA.out.mono ?_
  rintro e w1 ⟨⟨g1, cp1, rfl, t1⟩, hb1⟩
  have B1 : Hid (Below w.heap.size w w1) := hb1
  have TB1 : Hid (Calls _ _ _ _ _) := TB'.out w1 hb1
  have A1 : Hid (ts.Tw w1 w.heap.size g1 lh cp1 hs) := t1
  clear hb1 t1
  go_wp2_with fail
  refine TB1.out.mono ?_
  rintro e w2 ⟨⟨g2, cp2, rfl, t2⟩, hb2⟩
  have B2 : Hid (Below w.heap.size w w2) := over B1.out hb2
  have A2 : Hid (ts.Tw w2 w.heap.size g1 lh cp1 hs ∧ ts.Tw w2 w1.heap.size g2 lp cp2 ps) := ⟨A1.out.later hb2, t2⟩
  have TC1 : Hid (Calls _ _ _ _ _) := TC.out w2 B2.out
  clear hb2 t2
  go_wp2_with fail
  refine TC1.out.mono ?_
  rintro e w3 ⟨⟨g3, cp3, rfl, t3⟩, hb3⟩
  have B3 : Hid (Below w.heap.size w w3) := over B2.out hb3
  have A3 : Hid (ts.Tw w3 w.heap.size g1 lh cp1 hs ∧ ts.Tw w3 w1.heap.size g2 lp cp2 ps ∧ ti.Tw w3 w2.heap.size g3 l cp3 xs) := ⟨A2.out.1.later hb3, A2.out.2.later hb3, t3⟩
  have PM1 : Hid (Calls _ _ _ _ _) := PM.out w3 _ _ _ (A3.out.2.2.reads HL.out) (A3.out.1.reads HLH.out) (A3.out.2.1.reads HLP.out) (HT.out.down B3.out).t
  clear hb3 t3
  go_wp2_with fail
  refine PM1.out.mono ?_
  rintro e w4 ⟨rfl, hb4⟩
  have B4 : Hid (Below w.heap.size w w4) := over B3.out hb4
  have A4 : Hid (ts.Tw w4 w.heap.size g1 lh cp1 hs ∧ ts.Tw w4 w1.heap.size g2 lp cp2 ps ∧ ti.Tw w4 w2.heap.size g3 l cp3 xs) := ⟨A3.out.1.later hb4, A3.out.2.1.later hb4, A3.out.2.2.later hb4⟩
  have DM1 : Hid (Calls _ _ _ _ _) := DM.out w4 B4.out
  clear hb4
  go_wp2_with fail
  refine DM1.out.mono ?_
  rintro e w5 ⟨rfl, hb5⟩
  have B5 : Hid (Below w.heap.size w w5) := over B4.out hb5
  have A5 : Hid (ts.Tw w5 w.heap.size g1 lh cp1 hs ∧ ts.Tw w5 w1.heap.size g2 lp cp2 ps ∧ ti.Tw w5 w2.heap.size g3 l cp3 xs) := ⟨A4.out.1.later hb5, A4.out.2.1.later hb5, A4.out.2.2.later hb5⟩
  have KA1 : Hid (Calls _ _ _ _ _) := KA.out _ _ _ w5 B5.out A5.out.1
  clear hb5
  go_wp2_with fail
  refine KA1.out.mono ?_
  rintro e w6 ⟨rfl, m6, hw6⟩
  have hb6 : Below w5.heap.size w5 w6 := by rw [hw6]; exact below_dw _ _
  have B6 : Hid (Below w.heap.size w w6) := over B5.out hb6
  have KB1 : Hid (Calls _ _ _ _ _) := KB.out _ _ _ w6 B6.out (A5.out.2.1.later hb6)
  have A6 : Hid (ti.Tw w6 w2.heap.size g3 l cp3 xs) := A5.out.2.2.later hb6
  clear hw6 hb6
  go_wp2_with fail
  refine KB1.out.mono ?_
  rintro e w7 ⟨rfl, m7, hw7⟩
  have hb7 : Below w6.heap.size w6 w7 := by rw [hw7]; exact below_dw _ _
  have B7 : Hid (Below w.heap.size w w7) := over B6.out hb7
  have KC1 : Hid (Calls _ _ _ _ _) := KC.out _ _ _ w7 B7.out (A6.out.later hb7)
  clear hw7 hb7
  go_wp2_with fail
  refine KC1.out.mono ?_
  rintro e w8 ⟨rfl, m8, hw8⟩
  have B8 : Hid (Below w.heap.size w w8) := by rw [hw8]; exact over B7.out (below_dw _ _)
  clear hw8
  go_wp2
  go_ret
  exact ⟨by first | rfl | simp, B8.out⟩
end Go.Proofs.YtgkhnjmbmbebiabDoor.lu
