import Derived.Test.YtmigdhohbjnhcaaDoorRows
import Derived.Test.YtmigdhohbjnhcaaDoorPl
import Derived.ProofKit
import Derived.LaidMore
import Derived.OpenShut
import Derived.Stop.Joined
import Derived.Lib.LaidTab
namespace Go.Proofs.YtmigdhohbjnhcaaDoor.ft
open Go.ChangeShapes Go.WideShapes Go.ChangeAt Go.WideMaps Go.WideElems Go.RowKit
open Go.Proofs.YtmigdhohbjnhcaaDoor.pl

def kL : List Int := [1116352408, 1899447441, 3049323471, 3921009573, 961987163, 1508970993, 2453635748, 2870763221, 3624381080, 310598401, 607225278, 1426881987, 1925078388, 2162078206, 2614888103, 3248222580, 3835390401, 4022224774, 264347078, 604807628, 770255983, 1249150122, 1555081692, 1996064986, 2554220882, 2821834349, 2952996808, 3210313671, 3336571891, 3584528711, 113926993, 338241895, 666307205, 773529912, 1294757372, 1396182291, 1695183700, 1986661051, 2177026350, 2456956037, 2730485921, 2820302411, 3259730800, 3345764771, 3516065817, 3600352804, 4094571909, 275423344, 430227734, 506948616, 659060556, 883997877, 958139571, 1322822218, 1537002063, 1747873779, 1955562222, 2024104815, 2227730452, 2361852424, 2428436474, 2756734187, 3204031479, 3329325298]
def kF (j : Nat) : Int := kL.getD j 0
def v0 : St := ⟨1779033703, 3144134277, 1013904242, 2773480762, 1359893119, 2600822924, 528734635, 1541459225⟩


theorem own : ownKnob Tryd.prog.godebug = none := by kernel_rfl
theorem gS : Tryd.prog.globalNamed "annals/sha.starts" = some 1 := by kernel_rfl
theorem gR : Tryd.prog.globalNamed "annals/sha.rounds" = some 3 := by kernel_rfl
theorem tS : (Tryd.prog.globals[1]?).map (·.type) = some 55 := by kernel_rfl
theorem tR : (Tryd.prog.globals[3]?).map (·.type) = some 64 := by kernel_rfl
theorem cW : Tryd.prog.cellsOf 55 = 8 := by kernel_rfl
theorem c64 : Tryd.prog.cellsOf 64 = 64 := by kernel_rfl
theorem c1 : Tryd.prog.cellsOf 50 = 1 := by kernel_rfl

theorem v0_ok : v0.ok := by unfold St.ok v0; decide

def laid2 : List (String × DataW Unit) := [("annals/sha.starts", Rows.laid_annals_sha_starts), ("annals/sha.rounds", Rows.laid_annals_sha_rounds)]

theorem sData : (Rows.laid_annals_sha_starts : DataW Unit) = Lib.tabData .u32 v0.list := by kernel_rfl
theorem rData : (Rows.laid_annals_sha_rounds : DataW Unit) = Lib.tabData .u32 kL := by kernel_rfl

def St8 (W : World) (b : Nat) : Prop := ∀ j, j < 8 → W.cell? ⟨b, j, none⟩ = some (.int .u32 (v0.list.getD j 0))
def K64 (W : World) (b : Nat) : Prop := ∀ j, j < 64 → W.cell? ⟨b, j, none⟩ = some (.int .u32 (kF j))

theorem at8 {W : World} {b : Nat} {cs : Array Value} (e : cs.toList = v0.list.map (Value.int .u32)) (hc : ∀ j, W.cell? ⟨b, j, none⟩ = cs[j]?) : St8 W b := fun j hj => by
  have hl : v0.list.length = 8 := rfl
  rw [hc j, ← Array.getElem?_toList, e]
  simp [List.getD, List.getElem?_eq_getElem (show j < v0.list.length by omega)]
theorem at64 {W : World} {b : Nat} {cs : Array Value} (e : cs.toList = kL.map (Value.int .u32)) (hc : ∀ j, W.cell? ⟨b, j, none⟩ = cs[j]?) : K64 W b := fun j hj => by
  have hl : kL.length = 64 := rfl
  rw [hc j, ← Array.getElem?_toList, e]
  simp [kF, List.getD, List.getElem?_eq_getElem (show j < kL.length by omega)]

theorem of_laid2 {W : World} (h : laidMetH Tryd.prog laid2 W) : St8 W 1 ∧ K64 W 3 := by
  rw [MakeChecks.laidMetH_plain _ _ _ (by kernel_rfl)] at h
  obtain ⟨ps, ⟨g1, t1, cs1, f1, p1, q1, hg1, ht1, hv1, hd1, ⟨g0, t0, cs0, f0, p0, q0, hg0, ht0, hv0, hd0, _, _⟩, _⟩, _, _⟩ := h
  obtain rfl := Option.some.inj (gS.symm.trans hg1)
  obtain rfl := Option.some.inj (gR.symm.trans hg0)
  obtain rfl := Option.some.inj (tS.symm.trans ht1)
  obtain rfl := Option.some.inj (tR.symm.trans ht0)
  rw [sData] at hd1
  rw [rData] at hd0
  have e1 := Lib.cells_of_tab Tryd.underlying55 Tryd.underlying50 c1 cW hd1
  have e0 := Lib.cells_of_tab Tryd.underlying64 Tryd.underlying50 c1 c64 hd0
  exact ⟨at8 e1 (World.var?_cell hg1 hv1), at64 e0 (World.var?_cell hg0 hv0)⟩

theorem door_met2 (os : Os) (args : Array Value) : laidMetH Tryd.prog laid2 ((World.doorLaid Tryd.prog 400 os).forCall (fun _ _ => 0) ⟨#[], args, []⟩).memory :=
  laidMetH_of_parts3 (fuel := 8) (laidMet_of_run' 8 (by kernel_rfl) (by kernel_rfl)) (by kernel_rfl) (by kernel_rfl)

end Go.Proofs.YtmigdhohbjnhcaaDoor.ft
