import Derived.Test.YtkgadgkomdjplaaFe
import Derived.Test.YtkgadgkomdjplaaLg
namespace Go.Proofs.Ytkgadgkomdjplaa.wl
open Go.RowKit Go.PlainAid
open Go.Proofs.Ytkgadgkomdjplaa.ca Go.Proofs.Ytkgadgkomdjplaa.cb Go.Proofs.Ytkgadgkomdjplaa.cp Go.Proofs.Ytkgadgkomdjplaa.ga Go.Proofs.Ytkgadgkomdjplaa.kp Go.Proofs.Ytkgadgkomdjplaa.ea Go.Proofs.Ytkgadgkomdjplaa.eb Go.Proofs.Ytkgadgkomdjplaa.ec Go.Proofs.Ytkgadgkomdjplaa.ee Go.Proofs.Ytkgadgkomdjplaa.eg Go.Proofs.Ytkgadgkomdjplaa.ei Go.Proofs.Ytkgadgkomdjplaa.ka Go.Proofs.Ytkgadgkomdjplaa.bn Go.Proofs.Ytkgadgkomdjplaa.fd Go.Proofs.Ytkgadgkomdjplaa.fe Go.Proofs.Ytkgadgkomdjplaa.lg
set_option linter.unusedVariables false

theorem keptC (B g cp : Nat) (v : Value) (xs : List ByteArray) (w : World) (hT : Tw w B g xs.length cp xs) (hR : ReadsT w v xs) (hz : xs.length ≤ 140737488351232) :
    Calls Try.prog 13 #[.slice (some ⟨g, 0, none⟩) (xs.length + 1) cp, v] w fun e w' => e = .returned (.bool true) ∧ ∃ m, w' = w.drewN m := by
  obtain ⟨t1, t2, t3⟩ := hT.cell rfl
  have SC : Hid (Calls _ _ _ _ _) := same_yes (.slice (some ⟨g, 0, none⟩) xs.length cp) v xs w (hT.reads rfl) hR (by omega)
  obtain ⟨a, cap, rfl, hcap, hh⟩ := hR
  obtain ⟨n, HN⟩ : ∃ n, Hid (xs.length = n) := ⟨_, rfl⟩
  rw [HN.out] at t2 t3 SC hz hcap ⊢
  have hcp : (n : Int) ≤ cp := by omega
  have hcp0 : (n : Int) < (n : Int) + 1 := by omega
  have e1 : ((n + 1 : Nat) : Int) = (n : Int) + 1 := by omega
  have e2 : ((n : Int) + 1 == (n : Int) + 1) = true := beq_self_eq_true _
  clear t1 hh hT
  go_enter Try.func13, Try.ntmps13
  go_wp2_with (go_at_call 16; refine SC.out.mono ?_; rintro _ w1 ⟨rfl, m1, hm1⟩; have D1 : Hid (w1 = w.drewN m1) := hm1; clear hm1)
  go_ret
  exact ⟨rfl, m1, D1.out⟩
end Go.Proofs.Ytkgadgkomdjplaa.wl
