import Derived.Shelf.SlMaps.Clone
import Derived.Test.YtdhhbkkinlmgnaaYb
namespace Go.Proofs.Ytdhhbkkinlmgnaa.mc
open Go.Shelf Go.RowKit Go.Maps
open Go.Proofs.Ytdhhbkkinlmgnaa.ya Go.Proofs.Ytdhhbkkinlmgnaa.yb
set_option linter.unusedVariables false
def ren : Go.Shelf.Ren := ⟨fun | 5 => 21 | 7 => 54 | n => n, fun | 4 => 4 | 20 => 20 | 23 => 38 | 25 => 9 | 3 => 69 | n => n, fun | n => n⟩
theorem lays : Go.Proofs.SlLaysW.n5 Try.prog ren := {
  mixed := by kernel_rfl
  f5 := ⟨Try.f21.name, by kernel_rfl, Try.func21.trans (congrArg some (by kernel_rfl))⟩
  f7 := Try.func54.trans (congrArg some (by kernel_rfl))
  t4 := Try.underlying4
  a4 := Try.isAgg4
  z4 := Try.sizeOf4
  v4 := Try.zeroValue4
  t20 := Try.underlying20
  a20 := Try.isAgg20
  z20 := Try.sizeOf20
  v20 := Try.zeroValue20
  t23 := Try.underlying38
  a23 := Try.isAgg38
  z23 := Try.sizeOf38
  v23 := Try.zeroValue38 }
theorem cloneM (b : Nat) (r : List Rec) (w : World) (h : Mp b r w) :
    Calls Try.prog 21 #[.map (some b)] w fun e w' => e = .returned (.map (some w.heap.size)) ∧ Mp w.heap.size r w' ∧ Below w.heap.size w w' := by
  have C := AnyW.maps_Clone_owns lays 9 recE b r.length (dat r) w h
  exact C.mono fun e w' ⟨h1, h2, _, h3⟩ => ⟨h1, h2, h3⟩
end Go.Proofs.Ytdhhbkkinlmgnaa.mc
