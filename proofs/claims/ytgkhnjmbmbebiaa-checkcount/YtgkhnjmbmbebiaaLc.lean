import Derived.Test.YtgkhnjmbmbebiaaDf
import Derived.Test.YtgkhnjmbmbebiaaCn
import Derived.Test.YtgkhnjmbmbebiaaSi
import Derived.Test.YtgkhnjmbmbebiaaCv
namespace Go.Proofs.Ytgkhnjmbmbebiaa.lc
open Go.RowKit Go.PlainAid
open Go.Proofs.Ytgkhnjmbmbebiaa.ca Go.Proofs.Ytgkhnjmbmbebiaa.cp Go.Proofs.Ytgkhnjmbmbebiaa.cv Go.Proofs.Ytgkhnjmbmbebiaa.mi Go.Proofs.Ytgkhnjmbmbebiaa.co Go.Proofs.Ytgkhnjmbmbebiaa.cn Go.Proofs.Ytgkhnjmbmbebiaa.ti Go.Proofs.Ytgkhnjmbmbebiaa.si Go.Proofs.Ytgkhnjmbmbebiaa.df
set_option linter.unusedVariables false

set_option maxHeartbeats 1600000 in
theorem count_walk (kind : Int) (wk : (Lit.int .i64 kind).wf = true) (a : Int) (wa : (Lit.int .i64 a).wf = true) (b : Int) (wb : (Lit.int .i64 b).wf = true) (n : Int) (wn : (Lit.int .i64 n).wf = true) {w : World} (v : Value) (xs : List Int) (hR : ReadsI w v xs) (hno : ∀ k c, v = .slice none k c → c = 0) (hz : xs.length * 8 ≤ 140737488351232) :
    Calls Try.prog 4 #[.int .i64 kind, .int .i64 a, .int .i64 b, .int .i64 n, v] w fun e w' => e = .returned (.bool true) ∧ Below w.heap.size w w' := by
  have TC : Hid (Calls _ _ _ _ _) := twinC v xs w hR hno hz
  have PC : Hid (∀ w v, ReadsI w v xs → Calls _ _ _ _ _) := fun w v h => countC kind a b n v xs w h (by omega)
  have DC : Hid (∀ w, ReadsI w v xs → Calls _ _ _ _ _) := fun w h => rCount kind a b n v xs w h (by omega)
  have KC : Hid (∀ w g cp, Tw w w.heap.size g xs.length cp xs → ReadsI w v xs → True) := fun _ _ _ _ _ => trivial
  have HR : Hid (ReadsI w v xs) := hR
  have SC : Hid (∀ B g cp w', Tw w' B g xs.length cp xs → ReadsI w' v xs → Calls _ _ _ _ _) := fun B g cp w' h1 h2 => keptC B g xs.length cp v xs w' rfl h1 h2 (by omega)
  obtain ⟨va, cap, rfl, _⟩ := hR
  obtain ⟨l, HL⟩ : ∃ l, Hid (xs.length = l) := ⟨_, rfl⟩
  obtain ⟨c, HC⟩ : ∃ c, Hid (cnt9 kind a b n xs = c) := ⟨_, rfl⟩
  obtain ⟨c1, c2⟩ := c
  unfold Counted at DC
  rw [HC.out] at PC DC
  rw [HL.out] at TC HR SC DC ⊢
  clear KC hno hz wk wa wb wn
  have q1 : (c1 == c1) = true := beq_self_eq_true _
  have q2 : (c2 == c2) = true := beq_self_eq_true _
  go_enter Try.func4, Try.ntmps4
  go_wp2_with fail
  refine TC.out.mono ?_
  rintro e w1 ⟨⟨g, cp, rfl, ht⟩, hb1⟩
  have B1 : Hid (Below w.heap.size w w1) := hb1
  have T1 : Hid (Tw w1 w.heap.size g l cp xs) := ht
  clear ht hb1
  go_wp2_with fail
  refine (PC.out _ _ (T1.out.reads HL.out)).mono ?_
  rintro e w2 ⟨rfl, hb2⟩
  have B2 : Hid (Below w.heap.size w w2) := over B1.out hb2
  have T2 : Hid (Tw w2 w.heap.size g l cp xs) := T1.out.later hb2
  clear hb2
  go_wp2_with fail
  refine (DC.out _ (HR.out.later B2.out)).mono ?_
  rintro e w3 ⟨rfl, hb3⟩
  have B3 : Hid (Below w.heap.size w w3) := over B2.out hb3
  have T3 : Hid (Tw w3 w.heap.size g l cp xs) := T2.out.later hb3
  clear hb3
  go_wp2_with fail
  refine (SC.out _ g cp _ T3.out (HR.out.later B3.out)).mono ?_
  rintro e w4 ⟨rfl, m, hw⟩
  have B4 : Hid (Below w.heap.size w w4) := by subst hw; exact over B3.out (below_dw _ _)
  clear hw
  go_wp2
  go_ret
  exact ⟨by first | rfl | simp, B4.out⟩
end Go.Proofs.Ytgkhnjmbmbebiaa.lc
