import Derived.Shelf.SlMaps.Clone
import Derived.Test.YtjbaagcpcdmcnaaYb
namespace Go.Proofs.Ytjbaagcpcdmcnaa.mc
open Go.Shelf Go.RowKit Go.Maps
open Go.Proofs.Ytjbaagcpcdmcnaa.ya Go.Proofs.Ytjbaagcpcdmcnaa.yb
set_option linter.unusedVariables false
def ren : Go.Shelf.Ren := ⟨fun | 5 => 47 | 7 => 73 | n => n, fun | 4 => 4 | 20 => 20 | 23 => 46 | 25 => 9 | 3 => 78 | n => n, fun | n => n⟩
theorem lays : Go.Proofs.SlLaysW.n5 Try.prog ren := {
  mixed := by kernel_rfl
  f5 := ⟨Try.f47.name, by kernel_rfl, Try.func47.trans (congrArg some (by kernel_rfl))⟩
  f7 := Try.func73.trans (congrArg some (by kernel_rfl))
  t4 := Try.underlying4
  a4 := Try.isAgg4
  z4 := Try.sizeOf4
  v4 := Try.zeroValue4
  t20 := Try.underlying20
  a20 := Try.isAgg20
  z20 := Try.sizeOf20
  v20 := Try.zeroValue20
  t23 := Try.underlying46
  a23 := Try.isAgg46
  z23 := Try.sizeOf46
  v23 := Try.zeroValue46 }
theorem cloneM (b : Nat) (r : List Rec) (w : World) (h : Mp b r w) :
    Calls Try.prog 47 #[.map (some b)] w fun e w' => e = .returned (.map (some w.heap.size)) ∧ Mp w.heap.size r w' ∧ Below w.heap.size w w' := by
  have C := AnyW.maps_Clone_owns lays 9 recE b r.length (dat r) w h
  exact C.mono fun e w' ⟨h1, h2, _, h3⟩ => ⟨h1, h2, h3⟩
end Go.Proofs.Ytjbaagcpcdmcnaa.mc
