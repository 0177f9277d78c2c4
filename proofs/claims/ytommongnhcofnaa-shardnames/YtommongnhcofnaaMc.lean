import Derived.Shelf.SlMaps.Clone
import Derived.Test.YtommongnhcofnaaYb
namespace Go.Proofs.Ytommongnhcofnaa.mc
open Go.Shelf Go.RowKit Go.Maps
open Go.Proofs.Ytommongnhcofnaa.ya Go.Proofs.Ytommongnhcofnaa.yb
set_option linter.unusedVariables false
def ren : Go.Shelf.Ren := ⟨fun | 5 => 15 | 7 => 23 | n => n, fun | 4 => 4 | 20 => 20 | 23 => 41 | 25 => 9 | 3 => 53 | n => n, fun | n => n⟩
theorem lays : Go.Proofs.SlLaysW.n5 Try.prog ren := {
  mixed := by kernel_rfl
  f5 := ⟨Try.f15.name, by kernel_rfl, Try.func15.trans (congrArg some (by kernel_rfl))⟩
  f7 := Try.func23.trans (congrArg some (by kernel_rfl))
  t4 := Try.underlying4
  a4 := Try.isAgg4
  z4 := Try.sizeOf4
  v4 := Try.zeroValue4
  t20 := Try.underlying20
  a20 := Try.isAgg20
  z20 := Try.sizeOf20
  v20 := Try.zeroValue20
  t23 := Try.underlying41
  a23 := Try.isAgg41
  z23 := Try.sizeOf41
  v23 := Try.zeroValue41 }
theorem cloneM (b : Nat) (r : List Rec) (w : World) (h : Mp b r w) :
    Calls Try.prog 15 #[.map (some b)] w fun e w' => e = .returned (.map (some w.heap.size)) ∧ Mp w.heap.size r w' ∧ Below w.heap.size w w' := by
  have C := AnyW.maps_Clone_owns lays 9 recE b r.length (dat r) w h
  exact C.mono fun e w' ⟨h1, h2, _, h3⟩ => ⟨h1, h2, h3⟩
end Go.Proofs.Ytommongnhcofnaa.mc
