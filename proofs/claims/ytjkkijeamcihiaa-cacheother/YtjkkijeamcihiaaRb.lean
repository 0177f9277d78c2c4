import Derived.Test.YtjkkijeamcihiaaRa
import Derived.BigRegion
import Derived.Deep.RegionHeld3
import Derived.Deep.DeepCutAuto
namespace Go.Proofs.Ytjkkijeamcihiaa.rb
open Go.RowKit Go.PlainAid
open Go.Proofs.Ytjkkijeamcihiaa.kp Go.Proofs.Ytjkkijeamcihiaa.ra
set_option linter.unusedVariables false
set_option linter.unusedSimpArgs false

theorem aloneC (b o : Nat) (w : World) (u v : Value) (hu : w.cell? ⟨b, o + 2, none⟩ = some u) (hv : w.cell? ⟨b, o + 3, none⟩ = some v) (fu : w.frozen? ⟨b, o + 2, none⟩ = false) (fv : w.frozen? ⟨b, o + 3, none⟩ = false) :
    Calls Try.prog 33 #[pt ⟨b, o, none⟩] w fun e w' => e = .returned (.tuple #[]) ∧ w' = (w.setCell ⟨b, o + 2, none⟩ (pt ⟨b, o, none⟩)).setCell ⟨b, o + 3, none⟩ (pt ⟨b, o, none⟩) := by
  unfold pt
  go_enter Try.func33, Try.ntmps33
  go_wp2
  go_end0
  exact ⟨rfl, rfl⟩
theorem leaveC (b pb po qb qo : Nat) (w : World) (u v : Value)
    (hn : w.cell? ⟨b, 2, none⟩ = some (pt ⟨pb, po, none⟩)) (ho : w.cell? ⟨b, 3, none⟩ = some (pt ⟨qb, qo, none⟩))
    (hu : w.cell? ⟨pb, po + 3, none⟩ = some u) (hv : w.cell? ⟨qb, qo + 2, none⟩ = some v) (fu : w.frozen? ⟨pb, po + 3, none⟩ = false) (fv : w.frozen? ⟨qb, qo + 2, none⟩ = false)
    (h1 : (w.setCell ⟨pb, po + 3, none⟩ (pt ⟨qb, qo, none⟩)).cell? ⟨qb, qo + 2, none⟩ = some v) :
    Calls Try.prog 58 #[pt ⟨b, 0, none⟩] w fun e w' => e = .returned (.tuple #[]) ∧ w' = ((w.setCell ⟨pb, po + 3, none⟩ (pt ⟨qb, qo, none⟩)).setCell ⟨qb, qo + 2, none⟩ (pt ⟨pb, po, none⟩)).drew := by
  unfold pt at *
  go_enter Try.func58, Try.ntmps58
  go_region
  go_end0
  exact ⟨rfl, rfl⟩
theorem enterC (b eb eo qb qo : Nat) (w W : World) (u v x y z : Value)
    (hq : w.cell? ⟨eb, eo + 3, none⟩ = some (pt ⟨qb, qo, none⟩)) (hu : w.cell? ⟨b, 2, none⟩ = some u) (hv : (w.setCell ⟨b, 2, none⟩ (pt ⟨eb, eo, none⟩)).cell? ⟨b, 3, none⟩ = some v) (fu : w.frozen? ⟨b, 2, none⟩ = false) (fv : w.frozen? ⟨b, 3, none⟩ = false)
    (HW : Hid ((w.setCell ⟨b, 2, none⟩ (pt ⟨eb, eo, none⟩)).setCell ⟨b, 3, none⟩ (pt ⟨qb, qo, none⟩) = W))
    (w2 : W.cell? ⟨b, 2, none⟩ = some (pt ⟨eb, eo, none⟩)) (w3 : W.cell? ⟨b, 3, none⟩ = some (pt ⟨qb, qo, none⟩))
    (wx : W.cell? ⟨eb, eo + 3, none⟩ = some x) (wy : W.cell? ⟨qb, qo + 2, none⟩ = some y) (wz : (W.setCell ⟨eb, eo + 3, none⟩ (pt ⟨b, 0, none⟩)).cell? ⟨qb, qo + 2, none⟩ = some z)
    (fx : W.frozen? ⟨eb, eo + 3, none⟩ = false) (fy : W.frozen? ⟨qb, qo + 2, none⟩ = false) :
    Calls Try.prog 39 #[pt ⟨b, 0, none⟩, pt ⟨eb, eo, none⟩] w fun e w' => e = .returned (.tuple #[]) ∧ w' = ((W.setCell ⟨eb, eo + 3, none⟩ (pt ⟨b, 0, none⟩)).setCell ⟨qb, qo + 2, none⟩ (pt ⟨b, 0, none⟩)).drew := by
  unfold pt at *
  go_enter Try.func39, Try.ntmps39
  go_upto_region 1 with fail
  rw [HW.out]
  clear HW hq hu hv fu fv
  go_region
  go_end0
  exact ⟨rfl, rfl⟩
end Go.Proofs.Ytjkkijeamcihiaa.rb
