import Derived.Test.YtofmkdagehehaaaGreatDoorRows
import Derived.Test.YtofmkdagehehaaaGreatDoorA3
import Derived.ProofKit
import Derived.LaidMore
import Derived.OpenShut
import Derived.Stop.Joined
import Derived.Lib.LaidTab
import Derived.WalkKit
import Derived.WalkSpells
import Derived.Below
import Derived.PlainAid
import Derived.Deep.QuietTactic
import Derived.BigQuiet
import Derived.RowKit3
import Derived.Laws.ResultCell
import Derived.Laws.Rows
import Derived.Laws.Tables
import Derived.Laws.CopyOwn
import Derived.WalkSmall
import Derived.BigRegion
import Derived.RegionTactic
import Derived.Deep.WholeRow
import Derived.ArgAppend
import Derived.Laws.IdiomStrings
namespace Go.Proofs.YtofmkdagehehaaaGreatDoor.ft
open Go.ChangeShapes Go.WideShapes Go.ChangeAt Go.WideMaps Go.WideElems Go.RowKit
open Go.Proofs.YtofmkdagehehaaaGreatDoor.pl

def kL : List Int := [1116352408, 1899447441, 3049323471, 3921009573, 961987163, 1508970993, 2453635748, 2870763221, 3624381080, 310598401, 607225278, 1426881987, 1925078388, 2162078206, 2614888103, 3248222580, 3835390401, 4022224774, 264347078, 604807628, 770255983, 1249150122, 1555081692, 1996064986, 2554220882, 2821834349, 2952996808, 3210313671, 3336571891, 3584528711, 113926993, 338241895, 666307205, 773529912, 1294757372, 1396182291, 1695183700, 1986661051, 2177026350, 2456956037, 2730485921, 2820302411, 3259730800, 3345764771, 3516065817, 3600352804, 4094571909, 275423344, 430227734, 506948616, 659060556, 883997877, 958139571, 1322822218, 1537002063, 1747873779, 1955562222, 2024104815, 2227730452, 2361852424, 2428436474, 2756734187, 3204031479, 3329325298]
def kF (j : Nat) : Int := kL.getD j 0
def v0 : St := ⟨1779033703, 3144134277, 1013904242, 2773480762, 1359893119, 2600822924, 528734635, 1541459225⟩


theorem own : ownKnob Tryz.prog.godebug = none := by kernel_rfl
theorem gS : Tryz.prog.globalNamed "annals/sha.starts" = some 0 := by kernel_rfl
theorem gR : Tryz.prog.globalNamed "annals/sha.rounds" = some 2 := by kernel_rfl
theorem tS : (Tryz.prog.globals[0]?).map (·.type) = some 272 := by kernel_rfl
theorem tR : (Tryz.prog.globals[2]?).map (·.type) = some 283 := by kernel_rfl
theorem cW : Tryz.prog.cellsOf 272 = 8 := by kernel_rfl
theorem c64 : Tryz.prog.cellsOf 283 = 64 := by kernel_rfl
theorem c1 : Tryz.prog.cellsOf 191 = 1 := by kernel_rfl

theorem v0_ok : v0.ok := by unfold St.ok v0; decide

def laid2 : List (String × DataW Unit) := [("annals/sha.starts", Rows.laid_annals_sha_starts), ("annals/sha.rounds", Rows.laid_annals_sha_rounds)]

theorem sData : (Rows.laid_annals_sha_starts : DataW Unit) = Lib.tabData .u32 v0.list := by kernel_rfl
theorem rData : (Rows.laid_annals_sha_rounds : DataW Unit) = Lib.tabData .u32 kL := by kernel_rfl

def St8 (W : World) (b : Nat) : Prop := ∀ j, j < 8 → W.cell? ⟨b, j, none⟩ = some (.int .u32 (v0.list.getD j 0))
def K64 (W : World) (b : Nat) : Prop := ∀ j, j < 64 → W.cell? ⟨b, j, none⟩ = some (.int .u32 (kF j))

theorem at8 {W : World} {b : Nat} {cs : Array Value} (e : cs.toList = v0.list.map (Value.int .u32)) (hc : ∀ j, W.cell? ⟨b, j, none⟩ = cs[j]?) : St8 W b := fun j hj => by
  have hl : v0.list.length = 8 := rfl
  rw [hc j, ← Array.getElem?_toList, e]
  simp [List.getD, List.getElem?_eq_getElem (show j < v0.list.length by omega)]
theorem at64 {W : World} {b : Nat} {cs : Array Value} (e : cs.toList = kL.map (Value.int .u32)) (hc : ∀ j, W.cell? ⟨b, j, none⟩ = cs[j]?) : K64 W b := fun j hj => by
  have hl : kL.length = 64 := rfl
  rw [hc j, ← Array.getElem?_toList, e]
  simp [kF, List.getD, List.getElem?_eq_getElem (show j < kL.length by omega)]

theorem of_laid2 {W : World} (h : laidMetH Tryz.prog laid2 W) : St8 W 0 ∧ K64 W 2 := by
  rw [MakeChecks.laidMetH_plain _ _ _ (by kernel_rfl)] at h
  obtain ⟨ps, ⟨g1, t1, cs1, f1, p1, q1, hg1, ht1, hv1, hd1, ⟨g0, t0, cs0, f0, p0, q0, hg0, ht0, hv0, hd0, _, _⟩, _⟩, _, _⟩ := h
  obtain rfl := Option.some.inj (gS.symm.trans hg1)
  obtain rfl := Option.some.inj (gR.symm.trans hg0)
  obtain rfl := Option.some.inj (tS.symm.trans ht1)
  obtain rfl := Option.some.inj (tR.symm.trans ht0)
  rw [sData] at hd1
  rw [rData] at hd0
  have e1 := Lib.cells_of_tab Tryz.underlying272 Tryz.underlying191 c1 cW hd1
  have e0 := Lib.cells_of_tab Tryz.underlying283 Tryz.underlying191 c1 c64 hd0
  exact ⟨at8 e1 (World.var?_cell hg1 hv1), at64 e0 (World.var?_cell hg0 hv0)⟩

theorem door_met2 (os : Os) (args : Array Value) : laidMetH Tryz.prog laid2 ((World.doorLaid Tryz.prog 400 os).forCall (fun _ _ => 0) ⟨#[], args, []⟩).memory :=
  laidMetH_of_parts3 (fuel := 8) (laidMet_of_run' 8 (by kernel_rfl) (by kernel_rfl)) (by kernel_rfl) (by kernel_rfl)

end Go.Proofs.YtofmkdagehehaaaGreatDoor.ft

namespace Go.Proofs.YtofmkdagehehaaaGreatDoor.fu
open Go.ChangeShapes Go.WideShapes Go.ChangeAt Go.WideMaps Go.WideElems Go.RowKit
open Go.Proofs.YtofmkdagehehaaaGreatDoor.pl Go.Proofs.YtofmkdagehehaaaGreatDoor.ft

theorem gF : Tryz.prog.globalNamed "annals/annalsref2.first" = some 1 := by kernel_rfl
theorem gT : Tryz.prog.globalNamed "annals/annalsref2.table" = some 4 := by kernel_rfl
theorem tF : (Tryz.prog.globals[1]?).map (·.type) = some 271 := by kernel_rfl
theorem tT : (Tryz.prog.globals[4]?).map (·.type) = some 283 := by kernel_rfl
theorem c8 : Tryz.prog.cellsOf 271 = 8 := by kernel_rfl

def laid4 : List (String × DataW Unit) := [("annals/annalsref2.first", Rows.laid_annals_annalsref2_first), ("annals/annalsref2.table", Rows.laid_annals_annalsref2_table), ("annals/sha.starts", Rows.laid_annals_sha_starts), ("annals/sha.rounds", Rows.laid_annals_sha_rounds)]

theorem fData : (Rows.laid_annals_annalsref2_first : DataW Unit) = Lib.tabData .u32 v0.list := by kernel_rfl
theorem tData : (Rows.laid_annals_annalsref2_table : DataW Unit) = Lib.tabData .u32 kL := by kernel_rfl

theorem of_laid4 {W : World} (h : laidMetH Tryz.prog laid4 W) : St8 W 0 ∧ K64 W 2 ∧ St8 W 1 ∧ K64 W 4 := by
  rw [MakeChecks.laidMetH_plain _ _ _ (by kernel_rfl)] at h
  obtain ⟨ps, ⟨g3, t3, cs3, f3, p3, q3, hg3, ht3, hv3, hd3, ⟨g2, t2, cs2, f2, p2, q2, hg2, ht2, hv2, hd2, ⟨g1, t1, cs1, f1, p1, q1, hg1, ht1, hv1, hd1, ⟨g0, t0, cs0, f0, p0, q0, hg0, ht0, hv0, hd0, _, _⟩, _⟩, _⟩, _⟩, _, _⟩ := h
  obtain rfl := Option.some.inj (gF.symm.trans hg3)
  obtain rfl := Option.some.inj (gT.symm.trans hg2)
  obtain rfl := Option.some.inj (gS.symm.trans hg1)
  obtain rfl := Option.some.inj (gR.symm.trans hg0)
  obtain rfl := Option.some.inj (tF.symm.trans ht3)
  obtain rfl := Option.some.inj (tT.symm.trans ht2)
  obtain rfl := Option.some.inj (tS.symm.trans ht1)
  obtain rfl := Option.some.inj (tR.symm.trans ht0)
  rw [fData] at hd3
  rw [tData] at hd2
  rw [sData] at hd1
  rw [rData] at hd0
  have e3 := Lib.cells_of_tab Tryz.underlying271 Tryz.underlying191 c1 c8 hd3
  have e2 := Lib.cells_of_tab Tryz.underlying283 Tryz.underlying191 c1 c64 hd2
  have e1 := Lib.cells_of_tab Tryz.underlying272 Tryz.underlying191 c1 cW hd1
  have e0 := Lib.cells_of_tab Tryz.underlying283 Tryz.underlying191 c1 c64 hd0
  exact ⟨at8 e1 (World.var?_cell hg1 hv1), at64 e0 (World.var?_cell hg0 hv0), at8 e3 (World.var?_cell hg3 hv3), at64 e2 (World.var?_cell hg2 hv2)⟩

theorem door_met4 (os : Os) (args : Array Value) : laidMetH Tryz.prog laid4 ((World.doorLaid Tryz.prog 400 os).forCall (fun _ _ => 0) ⟨#[], args, []⟩).memory :=
  laidMetH_of_parts3 (fuel := 8) (laidMet_of_run' 8 (by kernel_rfl) (by kernel_rfl)) (by kernel_rfl) (by kernel_rfl)
end Go.Proofs.YtofmkdagehehaaaGreatDoor.fu

namespace Go.Proofs.YtofmkdagehehaaaGreatDoor.pj
open Go.RowKit Go.PlainAid
open Go.Proofs.YtofmkdagehehaaaGreatDoor.pl Go.Proofs.YtofmkdagehehaaaGreatDoor.pa Go.Proofs.YtofmkdagehehaaaGreatDoor.pb Go.Proofs.YtofmkdagehehaaaGreatDoor.pc Go.Proofs.YtofmkdagehehaaaGreatDoor.pd Go.Proofs.YtofmkdagehehaaaGreatDoor.pe Go.Proofs.YtofmkdagehehaaaGreatDoor.pf Go.Proofs.YtofmkdagehehaaaGreatDoor.pg Go.Proofs.YtofmkdagehehaaaGreatDoor.ph Go.Proofs.YtofmkdagehehaaaGreatDoor.pi Go.Proofs.YtofmkdagehehaaaGreatDoor.ft
set_option linter.unusedVariables false

def sha (s : ByteArray) : ByteArray := shaF kF v0 s
theorem sha_size (s : ByteArray) : (sha s).size = 32 := shaF_size _ _ _

-- the two tables of package sha
structure Tab (w : World) : Prop where
  st : ST w v0
  kt : KT w kF
theorem Tab.of {w : World} (h : St8 w 0 ∧ K64 w 2) : Tab w := ⟨h.1, h.2⟩
theorem Tab.big {w : World} (h : Tab w) : 3 ≤ w.heap.size := h.kt.lt
theorem Tab.below {w w' : World} {B : Nat} (h : Tab w) (b : Below B w w') (hB : 3 ≤ B) : Tab w' := ⟨st_below h.st b (by omega), kt_below h.kt b (by omega)⟩
theorem Tab.down {w w' : World} (h : Tab w) (b : Below w.heap.size w w') : Tab w' := h.below b h.big
theorem Tab.keeps {w w' : World} {k : Nat} (h : Tab w) (b : Keeps k w w') (hk : 3 ≤ k) : Tab w' := ⟨st_keep h.st b hk, h.kt.keep b hk⟩
abbrev HA (w : World) (h : Nat) (t : ByteArray) : Prop := HashAt kF v0 w h t

theorem ok0 : Hid v0.ok := v0_ok
theorem Sum (s : ByteArray) (w : World) (hs : s.size ≤ 1125899906842624) (T : Hid (Tab w)) :
    Calls Tryz.prog 198 #[.string s] w fun e w' => e = .returned (.string (sha s)) ∧ Below w.heap.size w w' := sum kF v0 s.size s w ok0 hs rfl T.out.st T.out.kt T.out.big


end Go.Proofs.YtofmkdagehehaaaGreatDoor.pj

namespace Go.Proofs.YtofmkdagehehaaaGreatDoor.ra
open Go.RowKit Go.PlainAid
open Go.Proofs.YtofmkdagehehaaaGreatDoor.pl
set_option linter.unusedVariables false

theorem rotr (x : Int) (n : Nat) (w : World) (h0 : 0 ≤ x) (h1 : x < 4294967296) (hn : 1 ≤ n) (hn' : n ≤ 31) :
    Calls Tryz.prog 245 #[.int .u32 x, .int .u64 n] w fun e w' => e = .returned (.int .u32 (ROT x n)) ∧ w' = w := by
  go_enter Tryz.func245, Tryz.ntmps245
  go_wp2
  go_ret
  exact ⟨rfl, rfl⟩

set_option maxHeartbeats 800000 in
theorem word (B off len cap p : Nat) (c0 c1 c2 c3 : Int) (w : World) (hp : p + 3 < len) (hl : len ≤ 140737488355328)
    (b0 : 0 ≤ c0 ∧ c0 ≤ 255) (b1 : 0 ≤ c1 ∧ c1 ≤ 255) (b2 : 0 ≤ c2 ∧ c2 ≤ 255) (b3 : 0 ≤ c3 ∧ c3 ≤ 255)
    (e0 : w.cell? ⟨B, off + p, none⟩ = some (.int .u8 c0)) (e1 : w.cell? ⟨B, off + (p + 1), none⟩ = some (.int .u8 c1)) (e2 : w.cell? ⟨B, off + (p + 2), none⟩ = some (.int .u8 c2)) (e3 : w.cell? ⟨B, off + (p + 3), none⟩ = some (.int .u8 c3)) :
    Calls Tryz.prog 248 #[.slice (some ⟨B, off, none⟩) len cap, .int .i64 p] w fun e w' => e = .returned (.int .u32 (WORD c0 c1 c2 c3)) ∧ ∃ n, w' = w.drewN n := by
  have g0 : (p : Int) < len := by omega
  have g1 : (p : Int) + 1 < len := by omega
  have g2 : (p : Int) + 2 < len := by omega
  have g3 : (p : Int) + 3 < len := by omega
  go_enter Tryz.func248, Tryz.ntmps248
  go_wp2_with fail
  go_quiet (fail)
  go_wp2
  go_ret
  exact ⟨rfl, nq, rfl⟩

theorem setCell_drewN (w : World) (n : Nat) (a : Addr) (v : Value) : (w.drewN n).setCell a v = (w.setCell a v).drewN n := rfl

theorem rotr' (x : Int) (n : Nat) (N : Int) (hN : N = n) (w : World) (h0 : 0 ≤ x) (h1 : x < 4294967296) (hn : 1 ≤ n) (hn' : n ≤ 31) :
    Calls Tryz.prog 245 #[.int .u32 x, .int .u64 N] w fun e w' => e = .returned (.int .u32 (ROT x n)) ∧ w' = w := by
  subst hN
  exact rotr x n w h0 h1 hn hn'

def Bytes (w : World) (B off len : Nat) (g : Nat → Int) : Prop := B < w.heap.size ∧ ∀ j, j < len → w.cell? ⟨B, off + j, none⟩ = some (.int .u8 (g j)) ∧ 0 ≤ g j ∧ g j ≤ 255

theorem store_next (W : World) (m N : Nat) (l l' : List Int) (t : Nat) (v x : Int) (hN : N = W.heap.size) (hv : v = x) (hset : l.set t x = l') :
    ((W.alloc (.cells (row32 l) 283)).drewN m).setCell ⟨N, t, none⟩ (.int .u32 v) = (W.alloc (.cells (row32 l') 283)).drewN m := by
  rw [setCell_drewN, World.setCell_alloc_at _ _ _ _ _ hN, hv, row32_set, hset]

set_option maxHeartbeats 1600000 in
theorem schedule (B off len cap p : Nat) (g : Nat → Int) (w : World) (hp : p + 63 < len) (hl : len ≤ 140737488355328) (HB : Hid (Bytes w B off len g)) :
    Calls Tryz.prog 244 #[.slice (some ⟨B, off, none⟩) len cap, .int .i64 p] w fun e w' => e = .returned (.agg (row32 (wL g p 64))) ∧ Below w.heap.size w w' := by
  obtain ⟨hBw, hcells⟩ := HB.out
  have HC : Hid _ := hcells
  clear hcells
  go_enter Tryz.func244, Tryz.ntmps244
  go_wp2_with fail
  go_loopw [6] (fun i wr => ∃ k n : Nat, k ≤ 16 ∧ i = .int .i64 k ∧ wr = ((w.alloc (.cells z64 283)).alloc (.cells (row32 (fillW g p k)) 283)).drewN n) (fun i _ => (16 - intOf i).toNat)
  case atStart => exact ⟨0, 0, by omega, rfl, rfl⟩
  case round =>
    obtain ⟨k, n, hk, rfl, rfl⟩ := hrel
    by_cases hlt : k < 16
    · have hlt' : (k : Int) < 16 := by omega
      have hsz : k < (row32 (fillW g p k)).size := by rw [row32_size, fillW_length g p k (by omega)]; omega
      have hcr : ∀ j, j < len → (((w.alloc (.cells z64 283)).alloc (.cells (row32 (fillW g p k)) 283)).drewN n).cell? ⟨B, off + j, none⟩ = some (.int .u8 (g j)) := by
        intro j hj
        rw [World.cell?_drewN, World.cell?_alloc_lt _ _ _ (by simp; omega), World.cell?_alloc_lt _ _ _ hBw]
        exact (HC.out j hj).1
      have HCR : Hid _ := hcr
      clear hcr
      have HX : Hid _ := fillW_set g p k _ (by omega) (wL_low g p k hlt)
      go_wp2_with fail
      rw [show (p : Int) + 4 * (k : Int) = ((p + 4 * k : Nat) : Int) by omega]
      refine (word B off len cap (p + 4 * k) (g (p + 4 * k)) (g (p + 4 * k + 1)) (g (p + 4 * k + 2)) (g (p + 4 * k + 3)) _ (by omega) hl (HC.out _ (by omega)).2 (HC.out _ (by omega)).2 (HC.out _ (by omega)).2 (HC.out _ (by omega)).2 (HCR.out _ (by omega)) (HCR.out _ (by omega)) (HCR.out _ (by omega)) (HCR.out _ (by omega))).mono ?_
      rintro e w' ⟨rfl, m, rfl⟩
      go_wp2
      go_roundw
      case rel => exact ⟨k + 1, n + m, by omega, by go_num, by rw [setCell_drewN, World.setCell_alloc_at _ _ _ _ _ (by simp), row32_set, HX.out]⟩
      case measure => simp [intOf]; omega
    · have hlt' : ¬ (k : Int) < 16 := by omega
      obtain rfl : k = 16 := by omega
      go_wp2_with fail
      go_loopw [7] (fun i wr => ∃ t m : Nat, 16 ≤ t ∧ t ≤ 64 ∧ i = .int .i64 t ∧ wr = ((w.alloc (.cells z64 283)).alloc (.cells (row32 (fillW g p t)) 283)).drewN m) (fun i _ => (64 - intOf i).toNat)
      case atStart => exact ⟨16, n, by omega, by omega, rfl, rfl⟩
      case round =>
        obtain ⟨t, m, ht1, ht2, rfl, rfl⟩ := hrel
        by_cases hlt : t < 64
        · have hlt' : (t : Int) < 64 := by omega
          have HX : Hid _ := fillW_set g p t _ hlt (wL_high g p t (by omega))
          have hsz : t < (row32 (fillW g p t)).size := by rw [row32_size, fillW_length g p t (by omega)]; omega
          have get : ∀ d, 1 ≤ d → d ≤ 16 → (row32 (fillW g p t))[t - d]? = some (.int .u32 ((wL g p t).getD (t - d) 0)) := by
            intro d h1 h2
            rw [row32_get, fillW_get g p t (t - d) (by omega)]; rfl
          have g15 := get 15 (by omega) (by omega)
          have g2 := get 2 (by omega) (by omega)
          have g7 := get 7 (by omega) (by omega)
          have g16 := get 16 (by omega) (by omega)
          have r15 := wL_range g p t (t - 15)
          have r2 := wL_range g p t (t - 2)
          clear get
          have HN : Hid (nextW (wL g p t) t = (S1 ((wL g p t).getD (t - 2) 0) + (wL g p t).getD (t - 7) 0 + S0 ((wL g p t).getD (t - 15) 0) + (wL g p t).getD (t - 16) 0) % 4294967296) := rfl
          revert HN g15 g2 g7 g16 r15 r2
          generalize (wL g p t).getD (t - 15) 0 = x15
          generalize (wL g p t).getD (t - 2) 0 = x2
          generalize (wL g p t).getD (t - 7) 0 = x7
          generalize (wL g p t).getD (t - 16) 0 = x16
          intro g15 g2 g7 g16 r15 r2 HN
          obtain ⟨r15a, r15b⟩ := r15
          obtain ⟨r2a, r2b⟩ := r2
          go_wp2_with fail
          refine (rotr' x15 7 7 rfl _ r15a r15b (by omega) (by omega)).mono ?_
          rintro e w' ⟨rfl, rfl⟩
          go_wp2_with fail
          refine (rotr' x15 18 18 rfl _ r15a r15b (by omega) (by omega)).mono ?_
          rintro e w' ⟨rfl, rfl⟩
          go_wp2_with fail
          refine (rotr' x2 17 17 rfl _ r2a r2b (by omega) (by omega)).mono ?_
          rintro e w' ⟨rfl, rfl⟩
          go_wp2_with fail
          refine (rotr' x2 19 19 rfl _ r2a r2b (by omega) (by omega)).mono ?_
          rintro e w' ⟨rfl, rfl⟩
          go_wp2_with fail
          go_region
          go_wp2
          go_roundw
          case rel => exact ⟨t + 1, m + 1, by omega, by omega, by go_num, store_next _ _ _ _ _ _ _ _ (by simp) HN.out.symm HX.out⟩
          case measure => simp [intOf]; omega
        · have hlt' : ¬ (t : Int) < 64 := by omega
          obtain rfl : t = 64 := by omega
          have hf : fillW g p 64 = wL g p 64 := by simp [fillW]
          rw [hf]
          have hlen : (row32 (wL g p 64)).size = 64 := by rw [row32_size, wL_length]
          have hi : (Tryz.prog.info? 283).map (·.size) = some (row32 (wL g p 64)).size := by rw [hlen]; kernel_rfl
          have h1 : ((((w.alloc (.cells z64 283)).alloc (.cells (row32 (wL g p 64)) 283)).drewN m).heap)[w.heap.size + 1]? = some (.cells (row32 (wL g p 64)) 283 (0, 0)) := heap_alloc2_new w _ _
          have h2 : ((((w.alloc (.cells z64 283)).alloc (.cells (row32 (wL g p 64)) 283)).drewN m).heap)[w.heap.size]? = some (.cells z64 283 (0, 0)) := heap_alloc2_old w _ _
          have h3 : (row32 (wL g p 64)).all (·.oneCell') = true := by simp [row32, Value.oneCell']
          have h4 : z64.size = (row32 (wL g p 64)).size := by rw [hlen]; rfl
          have HI : Hid _ := hi; have H1 : Hid _ := h1; have H2 : Hid _ := h2; have H3 : Hid _ := h3; have H4 : Hid _ := h4
          clear hf hlen hi h1 h2 h3 h4
          go_wp2_with (first | (refine wpList_load_row rfl 283 (.tmp 5) rfl (w.heap.size + 1) rfl 283 (row32 (wL g p 64)) (0, 0) _ H1.out Tryz.underlying283 rfl HI.out ?_) | (refine wpList_store_row rfl 283 (.tmp 4) (.tmp 67) rfl w.heap.size (row32 (wL g p 64)) rfl rfl 283 z64 H2.out HI.out H4.out H3.out ?_))
          exact bodyPost_ret (v := .agg (row32 (wL g p 64))) (results_cell_row Tryz.results244 _ _ w.heap.size 283 _ (0, 0) _ rfl (setRow_heap _ _ _ _ _ _ H2.out) Tryz.underlying283 rfl HI.out) rfl ⟨rfl, below_setRow (below_drewN (((Below.refl _ _).alloc (Nat.le_refl _) _).alloc (by simp) _) m) (Nat.le_refl _) _⟩
end Go.Proofs.YtofmkdagehehaaaGreatDoor.ra

namespace Go.Proofs.YtofmkdagehehaaaGreatDoor.rb
open Go.RowKit Go.PlainAid
open Go.Proofs.YtofmkdagehehaaaGreatDoor.ra Go.Proofs.YtofmkdagehehaaaGreatDoor.pl
set_option linter.unusedVariables false

theorem rotrZ (x N : Int) (w : World) (h0 : 0 ≤ x) (h1 : x < 4294967296) (hn : 1 ≤ N) (hn' : N ≤ 31) :
    Calls Tryz.prog 245 #[.int .u32 x, .int .u64 N] w fun e w' => e = .returned (.int .u32 (ROT x N.toNat)) ∧ w' = w := by
  obtain ⟨n, rfl⟩ := Int.eq_ofNat_of_zero_le (show 0 ≤ N by omega)
  exact rotr x n w h0 h1 (by omega) (by omega)

theorem size40 (s : St) : (Tryz.prog.info? 271).map (·.size) = some s.cells.size := by
  have h : (Tryz.prog.info? 271).map (·.size) = some 8 := by kernel_rfl
  exact h

theorem store8 {ops : Array Oper} {rest : List Oper} {o : Oper} {a : Act} {w : World} {Q : Exit → Act → World → Prop} (hgd : o.guard = none) (ho : o.op = .store 271 (.tmp 8) (.tmp 98)) (g : Nat) (Y X : St)
    (hx : a.eval (.tmp 8) = .pointer (some ⟨g, 0, none⟩)) (hy : a.eval (.tmp 98) = .agg Y.cells) (hg : w.heap[g]? = some (.cells X.cells 271 (0, 0)))
    (h : wpList Tryz.prog ops Q rest (a.put o.dst undef) (w.setRow g Y.cells)) : wpList Tryz.prog ops Q (o :: rest) a w :=
  wpList_store_row hgd 271 _ _ ho g Y.cells hx hy 271 X.cells hg (size40 Y) rfl (by simp [St.cells, Value.oneCell']) h

structure Lay (w w1 : World) (WL V X : Array Value) (wr : World) : Prop where
  lx : wr.heap[w1.heap.size + 1]? = some (.cells X 271 (0, 0))
  lw : wr.heap[w1.heap.size]? = some (.cells WL 283 (0, 0))
  lv : wr.heap[w.heap.size]? = some (.cells V 271 (0, 0))
  lr : wr.heap[w.heap.size + 1]? = some (.cells #[.int .u32 0, .int .u32 0, .int .u32 0, .int .u32 0, .int .u32 0, .int .u32 0, .int .u32 0, .int .u32 0] 271 (0, 0))
  lb : Below w.heap.size w wr

set_option maxHeartbeats 800000 in
set_option maxRecDepth 100000 in
theorem block (v : St) (B off len cap p : Nat) (g kk : Nat → Int) (w : World) (hp : p + 63 < len) (hl : len ≤ 140737488355328) (hv : v.ok) (HB : Hid (Bytes w B off len g)) (HK : Hid (∀ j, j < 64 → w.cell? ⟨4, j, none⟩ = some (.int .u32 (kk j)))) :
    Calls Tryz.prog 241 #[.agg v.cells, .slice (some ⟨B, off, none⟩) len cap, .int .i64 p] w fun e w' => e = .returned (.agg (blockF kk g p v).cells) ∧ Below w.heap.size w w' := by
  obtain ⟨v0, v1, v2, v3, v4, v5, v6, v7⟩ := v
  show Calls Tryz.prog 241 #[.agg #[.int .u32 v0, .int .u32 v1, .int .u32 v2, .int .u32 v3, .int .u32 v4, .int .u32 v5, .int .u32 v6, .int .u32 v7], .slice (some ⟨B, off, none⟩) len cap, .int .i64 p] w _
  go_enter Tryz.func241, Tryz.ntmps241
  go_wp2_with fail
  refine (schedule B off len cap p g _ hp hl ?_).mono ?_
  · obtain ⟨h1, h2⟩ := HB.out
    refine ⟨by simp; omega, fun j hj => ⟨?_, (h2 j hj).2⟩⟩
    rw [World.cell?_alloc_lt _ _ _ (by simp; omega), World.cell?_alloc_lt _ _ _ h1]
    exact (h2 j hj).1
  rintro e w1 ⟨rfl, hb⟩
  have hV1 := (hb.block w.heap.size (by simp; omega)).trans (heap_alloc2_old w _ _)
  have hR1 := (hb.block (w.heap.size + 1) (by simp)).trans (heap_alloc2_new w _ _)
  have hs1 : w.heap.size + 2 ≤ w1.heap.size := by have := hb.size; simp at this; omega
  have hbel : Below w.heap.size w w1 := (((Below.refl _ _).alloc (Nat.le_refl _) _).alloc (by simp) _).trans (hb.mono (by simp; omega))
  have HV1 : Hid _ := hV1
  have HR1 : Hid _ := hR1
  have HL : Hid (Below w.heap.size w w1) := hbel
  clear hV1 hR1 hb hbel
  have hlen : (row32 (wL g p 64)).size = 64 := by rw [row32_size, wL_length]
  have HI : Hid ((Tryz.prog.info? 283).map (·.size) = some (row32 (wL g p 64)).size) := by show _ = _; rw [hlen]; kernel_rfl
  have H3 : Hid ((row32 (wL g p 64)).all (·.oneCell') = true) := by show _ = _; simp [row32, Value.oneCell']
  have H4 : Hid (64 = (row32 (wL g p 64)).size) := by show _ = _; rw [hlen]
  clear hlen
  obtain ⟨x, HWX⟩ : ∃ x : Nat → Int, Hid (∀ j, j < 64 → x j = (wL g p 64).getD j 0) := ⟨fun j => (wL g p 64).getD j 0, fun _ _ => rfl⟩
  have HWL : Hid (∀ j, j < 64 → (row32 (wL g p 64))[j]? = some (.int .u32 (x j))) := fun j hj => by
    rw [row32_get, List.getElem?_eq_getElem (by rw [wL_length]; exact hj), HWX.out j hj, List.getD, List.getElem?_eq_getElem (by rw [wL_length]; exact hj)]
    rfl
  generalize row32 (wL g p 64) = WL at *
  have HW : Hid ((w1.alloc (.cells WL 283)).heap[w.heap.size]? = some (.cells #[.int .u32 v0, .int .u32 v1, .int .u32 v2, .int .u32 v3, .int .u32 v4, .int .u32 v5, .int .u32 v6, .int .u32 v7] 271 (0, 0))) := (heap_alloc_old w1 _ (by omega)).trans HV1.out
  have H40 : Hid ((Tryz.prog.info? 271).map (·.size) = some 8) := by show _ = _; kernel_rfl
  go_wp2_with (first | (refine wpList_store_row rfl 283 (.tmp 7) (.tmp 17) rfl w1.heap.size WL rfl rfl 283 _ (heap_alloc_new w1 _) HI.out H4.out H3.out ?_; rw [World.setRow_alloc_new]) | (refine wpList_load_row rfl 271 (.tmp 3) rfl w.heap.size rfl 271 #[.int .u32 v0, .int .u32 v1, .int .u32 v2, .int .u32 v3, .int .u32 v4, .int .u32 v5, .int .u32 v6, .int .u32 v7] (0, 0) _ HW.out Tryz.underlying271 rfl H40.out ?_))
  clear HW
  go_loopw [9] (fun i wr => ∃ (t : Nat) (s : St), t ≤ 64 ∧ i = .int .i64 t ∧ s = rnds kk x ⟨v0, v1, v2, v3, v4, v5, v6, v7⟩ t ∧ Lay w w1 WL #[.int .u32 v0, .int .u32 v1, .int .u32 v2, .int .u32 v3, .int .u32 v4, .int .u32 v5, .int .u32 v6, .int .u32 v7] s.cells wr ∧ s.ok) (fun i _ => (64 - intOf i).toNat)
  case atStart =>
    refine ⟨0, ⟨v0, v1, v2, v3, v4, v5, v6, v7⟩, by omega, rfl, rfl, ⟨?_, ?_, ?_, ?_, ?_⟩, hv⟩
    · exact heap_alloc2_new w1 _ _
    · exact heap_alloc2_old w1 _ _
    · rw [heap_alloc_old _ _ (by simp; omega), heap_alloc_old _ _ (by omega)]; exact HV1.out
    · rw [heap_alloc_old _ _ (by simp; omega), heap_alloc_old _ _ (by omega)]; exact HR1.out
    · exact ((HL.out.alloc (by omega) _).alloc (by simp; omega) _)
  case round =>
    obtain ⟨t, ⟨a, b, c, d, e, f, g', h'⟩, ht, rfl, hS, lay, ok⟩ := hrel
    have HS : Hid _ := hS
    have OK : Hid (St.ok _) := ok
    clear hS
    obtain ⟨lx, lw, lv, lr, lb⟩ := lay
    obtain ⟨⟨ha0, ha1⟩, ⟨hb0, hb1⟩, ⟨hc0, hc1⟩, ⟨hd0, hd1⟩, ⟨he0, he1⟩, ⟨hf0, hf1⟩, ⟨hg0, hg1⟩, ⟨hh0, hh1⟩⟩ := ok
    simp only at ha0 ha1 hb0 hb1 hc0 hc1 hd0 hd1 he0 he1 hf0 hf1 hg0 hg1 hh0 hh1
    have LX : Hid _ := lx; have LW : Hid _ := lw; have LV : Hid _ := lv; have LR : Hid _ := lr; have LB : Hid (Below _ _ _) := lb
    clear lx lw lv lr lb
    have X0 : wr.cell? ⟨w1.heap.size + 1, 0, none⟩ = some (.int .u32 a) := cell_of_row _ _ _ _ _ _ LX.out
    have X1 : wr.cell? ⟨w1.heap.size + 1, 1, none⟩ = some (.int .u32 b) := cell_of_row _ _ _ _ _ _ LX.out
    have X2 : wr.cell? ⟨w1.heap.size + 1, 2, none⟩ = some (.int .u32 c) := cell_of_row _ _ _ _ _ _ LX.out
    have X3 : wr.cell? ⟨w1.heap.size + 1, 3, none⟩ = some (.int .u32 d) := cell_of_row _ _ _ _ _ _ LX.out
    have X4 : wr.cell? ⟨w1.heap.size + 1, 4, none⟩ = some (.int .u32 e) := cell_of_row _ _ _ _ _ _ LX.out
    have X5 : wr.cell? ⟨w1.heap.size + 1, 5, none⟩ = some (.int .u32 f) := cell_of_row _ _ _ _ _ _ LX.out
    have X6 : wr.cell? ⟨w1.heap.size + 1, 6, none⟩ = some (.int .u32 g') := cell_of_row _ _ _ _ _ _ LX.out
    have X7 : wr.cell? ⟨w1.heap.size + 1, 7, none⟩ = some (.int .u32 h') := cell_of_row _ _ _ _ _ _ LX.out
    have hsg : IntKind.u32.signed = false := rfl
    by_cases hlt : t < 64
    · have hlt' : (t : Int) < 64 := by omega
      have hkt : wr.cell? ⟨4, t, none⟩ = some (.int .u32 (kk t)) := by
        have h1 := HK.out t hlt
        rw [← h1]
        exact LB.out.cell (block_lt_of_cell h1)
      have hwt : wr.cell? ⟨w1.heap.size, t, none⟩ = some (.int .u32 (x t)) := by
        rw [cell_of_row _ _ _ _ _ _ LW.out]; exact HWL.out t hlt
      go_wp2_with fail
      go_quiet ((go_at_call 245; exact Calls.quiet_of_same (rotrZ _ _ _ (by assumption) (by assumption) (by omega) (by omega))))
      generalize hW2 : wr.drewN nq = wr2
      have hc2 : ∀ a, wr2.cell? a = wr.cell? a := fun a => by subst hW2; rfl
      have HH2 : Hid (wr2.heap = wr.heap) := show _ = _ by subst hW2; rfl
      have HB2 : Hid (Below w.heap.size w wr2) := show Below _ _ _ from by subst hW2; exact below_drewN LB.out nq
      clear hW2
      go_wp2_with fail
      go_quiet ((go_at_call 245; exact Calls.quiet_of_same (rotrZ _ _ _ (by assumption) (by assumption) (by omega) (by omega))))
      generalize hW3 : wr2.drewN nq = wr3
      have hc3 : ∀ a, wr3.cell? a = wr.cell? a := fun a => by subst hW3; exact hc2 a
      have HH3 : Hid (wr3.heap = wr.heap) := show _ = _ by subst hW3; exact HH2.out
      have HB3 : Hid (Below w.heap.size w wr3) := show Below _ _ _ from by subst hW3; exact below_drewN HB2.out nq
      clear hW3 hc2 HH2 HB2
      have LX3 : Hid (wr3.heap[w1.heap.size + 1]? = some (.cells (St.mk a b c d e f g' h').cells 271 (0, 0))) := by show _ = _; rw [HH3.out]; exact LX.out
      generalize hT2 : (bits .xor .u32 (bits .xor .u32 (ROT a 2) (ROT a 13)) (ROT a 22) + bits .xor .u32 (bits .xor .u32 (bits .and .u32 a b) (bits .and .u32 a c)) (bits .and .u32 b c)) % 4294967296 = T2
      have HT2 : Hid _ := hT2
      clear hT2
      go_wp2_with (refine store8 rfl rfl (w1.heap.size + 1) ⟨_, a, b, c, _, e, f, g'⟩ ⟨a, b, c, d, e, f, g', h'⟩ rfl rfl LX3.out ?_)
      go_roundw
      case rel =>
        have hT2 := HT2.out
        subst hT2
        have e1 : rnds kk x ⟨v0, v1, v2, v3, v4, v5, v6, v7⟩ (t + 1) = rnd ⟨a, b, c, d, e, f, g', h'⟩ (kk t) (x t) := by
          show rnd _ _ _ = _
          rw [← HS.out]
        refine ⟨t + 1, rnd ⟨a, b, c, d, e, f, g', h'⟩ (kk t) (x t), by omega, by go_num, e1.symm, ⟨?_, ?_, ?_, ?_, ?_⟩, rnd_ok _ _ _ OK.out⟩
        · exact setRow_heap _ _ _ _ _ _ LX3.out
        · rw [setRow_other _ _ _ _ (by omega), HH3.out]; exact LW.out
        · rw [setRow_other _ _ _ _ (by omega), HH3.out]; exact LV.out
        · rw [setRow_other _ _ _ _ (by omega), HH3.out]; exact LR.out
        · exact below_setRow HB3.out (by omega) _
      case measure => simp [intOf]; omega
    · have hlt' : ¬ (t : Int) < 64 := by omega
      obtain rfl : t = 64 := by omega
      clear X0 X1 X2 X3 X4 X5 X6 X7
      have HV : Hid (wr.heap[w.heap.size]? = some (.cells (row32 (addL (St.mk v0 v1 v2 v3 v4 v5 v6 v7).list (St.mk a b c d e f g' h').list 0)) 271 (0, 0))) := LV.out
      generalize hVV : St.mk v0 v1 v2 v3 v4 v5 v6 v7 = VV at *
      generalize hXX : St.mk a b c d e f g' h' = XX at *
      go_wp2_with fail
      go_loopw [14] (fun i wq => ∃ k : Nat, k ≤ 8 ∧ i = .int .i64 k ∧ Lay w w1 WL (row32 (addL VV.list XX.list k)) XX.cells wq) (fun i _ => (8 - intOf i).toNat)
      case atStart => exact ⟨0, by omega, rfl, ⟨LX.out, LW.out, HV.out, LR.out, LB.out⟩⟩
      case round =>
        obtain ⟨k, hk, rfl, lay⟩ := hrel
        have LAY : Hid (Lay _ _ _ _ _ _) := lay
        clear lay
        by_cases hk8 : k < 8
        · have hk8' : (k : Int) < 8 := by omega
          have C1 : wr.cell? ⟨w.heap.size, k, none⟩ = some (.int .u32 (VV.list.getD k 0)) := by
            rw [cell_of_row _ _ _ _ _ _ LAY.out.lv, row32_get, addL_get VV XX k hk8]; rfl
          have C2 : wr.cell? ⟨w1.heap.size + 1, k, none⟩ = some (.int .u32 (XX.list.getD k 0)) := by
            rw [cell_of_row _ _ _ _ _ _ LAY.out.lx, St.get XX k hk8]
          have F1 : wr.frozen? ⟨w.heap.size, k, none⟩ = false := frozen_of_row _ _ _ _ _ LAY.out.lv
          have HA : Hid _ := addL_set VV XX k hk8
          revert HA C1 C2
          generalize VV.list.getD k 0 = vk
          generalize XX.list.getD k 0 = xk
          intro C1 C2 HA
          go_wp2_with fail
          go_region
          go_wp2
          go_roundw
          case rel =>
            refine ⟨k + 1, by omega, by go_num, ⟨?_, ?_, ?_, ?_, ?_⟩⟩
            · rw [heap_drew, heap_setCell_other _ _ _ _ (by simp; omega)]; exact LAY.out.lx
            · rw [heap_drew, heap_setCell_other _ _ _ _ (by simp; omega)]; exact LAY.out.lw
            · rw [heap_drew, heap_setCell_same _ _ _ _ _ _ LAY.out.lv, row32_set, HA.out]
            · rw [heap_drew, heap_setCell_other _ _ _ _ (by simp)]; exact LAY.out.lr
            · exact (LAY.out.lb.setCell (by simp) _).drew
          case measure => simp [intOf]; omega
        · have hk8' : ¬ (k : Int) < 8 := by omega
          obtain rfl : k = 8 := by omega
          have hlen : (row32 (addL VV.list XX.list 8)).size = 8 := by rw [row32_size, addL_length VV XX 8 (by omega)]
          have HI8 : Hid ((Tryz.prog.info? 271).map (·.size) = some (row32 (addL VV.list XX.list 8)).size) := by show _ = _; rw [hlen]; exact H40.out
          have HO8 : Hid ((row32 (addL VV.list XX.list 8)).all (·.oneCell') = true) := by show _ = _; simp [row32, Value.oneCell']
          have HS8 : Hid (8 = (row32 (addL VV.list XX.list 8)).size) := by show _ = _; rw [hlen]
          clear hlen
          go_wp2_with (first | (refine wpList_load_row rfl 271 (.tmp 3) rfl w.heap.size rfl 271 (row32 (addL VV.list XX.list 8)) (0, 0) _ LAY.out.lv Tryz.underlying271 rfl HI8.out ?_) | (refine wpList_store_row rfl 271 (.tmp 6) (.tmp 112) rfl (w.heap.size + 1) (row32 (addL VV.list XX.list 8)) rfl rfl 271 _ LAY.out.lr HI8.out HS8.out HO8.out ?_))
          refine bodyPost_ret (v := .agg (row32 (addL VV.list XX.list 8))) (results_cell_row Tryz.results241 _ _ (w.heap.size + 1) 271 _ (0, 0) _ rfl (setRow_heap _ _ _ _ _ _ LAY.out.lr) Tryz.underlying271 rfl HI8.out) rfl ⟨?_, below_setRow LAY.out.lb (by omega) _⟩
          rw [addL_full, ← St.cells_list]
          have hq : XX = rnds kk (fun j => (wL g p 64).getD j 0) VV 64 := by
            rw [HS.out]
            exact rnds_congr kk _ _ VV 64 (fun j hj => HWX.out j hj)
          subst hVV
          rw [hq]
          rfl
end Go.Proofs.YtofmkdagehehaaaGreatDoor.rb

namespace Go.Proofs.YtofmkdagehehaaaGreatDoor.rc
open Go.RowKit Go.PlainAid
open Go.Proofs.YtofmkdagehehaaaGreatDoor.pl Go.Proofs.YtofmkdagehehaaaGreatDoor.pd Go.Proofs.YtofmkdagehehaaaGreatDoor.pf Go.Proofs.YtofmkdagehehaaaGreatDoor.ra Go.Proofs.YtofmkdagehehaaaGreatDoor.rb
set_option linter.unusedVariables false

-- a slice of bytes of our own, by its cells
structure OwnM (w : World) (base : Nat) (v : Value) (n : Nat) (ns : List Int) : Prop where
  len : ns.length = n
  ex : ∃ g cap, v = .slice (some ⟨g, 0, none⟩) n cap ∧ base ≤ g ∧ g < w.heap.size ∧ (∀ j, j < n → w.cell? ⟨g, j, none⟩ = some (.int .u8 (ns.getD j 0))) ∧ (∀ j, n ≤ j → j < cap → (w.cell? ⟨g, j, none⟩).isSome = true ∧ w.frozen? ⟨g, j, none⟩ = false)

theorem OwnM.alloc {w : World} {base : Nat} {v : Value} {n : Nat} {ns : List Int} (h : OwnM w base v n ns) (o : Obj) : OwnM (w.alloc o) base v n ns := by
  obtain ⟨hl, g, cap, rfl, hb, hg, h1, h2⟩ := h
  refine ⟨hl, g, cap, rfl, hb, by simp; omega, fun j hj => ?_, fun j ha hc => ?_⟩
  · rw [World.cell?_alloc_lt _ _ _ hg]; exact h1 j hj
  · rw [World.cell?_alloc_lt _ _ _ hg, World.frozen?_alloc_past _ _ _ hg]; exact h2 j ha hc

theorem append_mark {ops : Array Oper} {rest : List Oper} {o : Oper} {a : Act} {w : World} {Q : Exit → Act → World → Prop} (hgd : o.guard = none) (s x : Operand)
    (ho : o.op = .call { callee := .builtin .append, args := #[s, x], argTypes := #[109, 109] }) (base : Nat) (v : Value) (n : Nat) (ns : List Int) (hs : a.eval s = v) (hown : OwnM w base v n ns)
    (ad : Addr) (c : Nat) (u : Int) (hx : a.eval x = .slice (some ad) 1 c) (hu : w.cell? ad = some (.int .u8 u)) (hn : n + 1 ≤ 140737488355328) (hbase : base ≤ w.heap.size)
    (h : ∀ v' w', OwnM w' base v' (n + 1) (ns ++ [u]) → Below base w w' → wpList Tryz.prog ops Q rest (a.put o.dst v') w') : wpList Tryz.prog ops Q (o :: rest) a w := by
  obtain ⟨hl, g, cap, rfl, hb, hg, h1, h2⟩ := hown
  obtain ⟨i5, hi, hz0, hz1, hz2⟩ := info_parts info5
  refine wpList_append_arg w hgd s x 109 ho 5 i5 (.int .u8 0) 1 1 Tryz.underlying109 hi hz0 hz1 hz2 rfl (by decide) g 0 n cap (ns.map (Value.int .u8)) hs (by simp [hl]) ?_ ad 1 c [.int .u8 u] hx rfl ?_ ?_ ?_ (by unfold maxLen; omega) (by omega) ?_ ?_
  · intro j z hj
    have hjl : j < ns.length := by simpa using (List.getElem?_eq_some_iff.1 hj).1
    rw [Nat.zero_add, h1 j (by omega), ← hj]
    simp [List.getD, hjl]
  · intro j z hj
    match j, hj with
    | 0, hj =>
      have e : ad.add 0 = ad := by simp [Addr.add]
      rw [e, hu]; exact hj
  · intro z hz
    simp at hz
    subst hz; rfl
  · intro hr j hj
    have : j = 0 := by simpa using hj
    subst this
    have := h2 n (Nat.le_refl _) (by omega)
    simpa using this
  · intro hr
    have e : w.setCells g (0 + n * 1) [.int .u8 u] = w.setCell ⟨g, n, none⟩ (.int .u8 u) := by simp [World.setCells]
    rw [e]
    refine h _ _ ⟨by simp [hl], g, cap, rfl, hb, by simpa [World.setCell] using hg, fun j hj => ?_, fun j ha hc => ?_⟩ ((Below.refl _ _).setCell hb _)
    · rcases Nat.lt_or_ge j n with hj1 | hj1
      · rw [World.cell?_setCell_other _ _ _ _ (by intro hh; injection hh with _ hh2 _; omega), h1 j hj1, List.getD, List.getD, List.getElem?_append_left (by omega)]
      · have hj2 : j = n := by omega
        subst hj2
        obtain ⟨y, hy⟩ := Option.isSome_iff_exists.1 (h2 j (Nat.le_refl _) (by omega)).1
        rw [World.cell?_setCell_same _ _ _ hy, List.getD, List.getElem?_append_right (by omega), hl]
        simp
    · have := h2 j (by omega) hc
      refine ⟨?_, ?_⟩
      · rw [World.cell?_setCell_other _ _ _ _ (by intro hh; injection hh with _ hh2 _; omega)]; exact this.1
      · rw [World.frozen?_setCell]; exact this.2
  · intro hc v' w' hown' hgrow
    obtain ⟨hl2, hh | ⟨g2, cap2, cur, rfl, hb2, hh2, k1, k2, k3, k4⟩⟩ := hown'
    · omega
    · refine h _ _ ⟨by simp [hl], g2, cap2, rfl, by omega, (Array.getElem?_eq_some_iff.1 hh2).1, fun j hj => ?_, fun j ha hcj => ?_⟩ ((Below.refl _ _).grown hgrow hbase (fun k hk => by cases hk))
      · rw [cell_of_row _ _ _ _ _ _ hh2, ← Array.getElem?_toList]
        have e1 : cur.toList[j]? = (cur.toList.take ((n + 1) * 1))[j]? := by rw [List.getElem?_take, if_pos (by omega)]
        rw [e1, k4]
        have e2 : ns.map (Value.int .u8) ++ [Value.int .u8 u] = (ns ++ [u]).map (Value.int .u8) := by simp
        rw [e2, List.getElem?_map]
        have hjl : j < (ns ++ [u]).length := by simp; omega
        simp [List.getD, List.getElem?_eq_getElem hjl]
      · refine ⟨?_, frozen_of_row _ _ _ _ _ hh2⟩
        rw [cell_of_row _ _ _ _ _ _ hh2, Array.getElem?_eq_getElem (by omega)]
        rfl

-- []byte(s)
theorem of_string (w : World) (s : ByteArray) (hs : s.size ≤ 140737488352256) : ∃ v w', (convert 9 109 (.string s)).run Tryz.prog w = .ok v w' ∧ OwnM w' w.heap.size v s.size (btL s s.size) ∧ Below w.heap.size w w' := by
  refine ⟨_, _, run_bytes_of_string w 9 109 5 s Tryz.underlying9 Tryz.underlying109 Tryz.underlying5, ⟨btL_length _ _, _, _, rfl, Nat.le_refl _, by simp, fun j hj => ?_, fun j ha hc => ?_⟩, ((Below.refl _ _).drew).alloc (Nat.le_refl _) _⟩
  · have hh : (w.drew.alloc (.cells (bytesRow s (grownCap w s.size 0 5)) 5 ((bytesRow s (grownCap w s.size 0 5)).size, (bytesRow s (grownCap w s.size 0 5)).size + 1))).heap[w.heap.size]? = some (.cells (bytesRow s (grownCap w s.size 0 5)) 5 ((bytesRow s (grownCap w s.size 0 5)).size, (bytesRow s (grownCap w s.size 0 5)).size + 1)) := heap_alloc_new w.drew _
    rw [cell_of_row _ _ _ _ _ _ hh, bytesRow, Array.getElem?_append_left (by simpa using hj), btL_get _ _ _ hj]
    have hj' : j < s.data.size := hj
    rw [Array.getElem?_map, Array.getElem?_eq_getElem hj']
    simp only [Option.map_some]
    rw [← get_bt s j hj]
    rfl
  · have hh : (w.drew.alloc (.cells (bytesRow s (grownCap w s.size 0 5)) 5 ((bytesRow s (grownCap w s.size 0 5)).size, (bytesRow s (grownCap w s.size 0 5)).size + 1))).heap[w.heap.size]? = some (.cells (bytesRow s (grownCap w s.size 0 5)) 5 ((bytesRow s (grownCap w s.size 0 5)).size, (bytesRow s (grownCap w s.size 0 5)).size + 1)) := heap_alloc_new w.drew _
    have hsz : (bytesRow s (grownCap w s.size 0 5)).size = grownCap w s.size 0 5 := by
      have := grownCap_ge w s.size 0 5
      have e : s.data.size = s.size := rfl
      simp [bytesRow, e]; omega
    refine ⟨?_, ?_⟩
    · rw [cell_of_row _ _ _ _ _ _ hh, Array.getElem?_eq_getElem (by omega)]; rfl
    · unfold World.frozen?
      rw [hh]
      simp only [hsz]
      simp; omega
end Go.Proofs.YtofmkdagehehaaaGreatDoor.rc

namespace Go.Proofs.YtofmkdagehehaaaGreatDoor.rd
open Go.RowKit Go.PlainAid
open Go.Proofs.YtofmkdagehehaaaGreatDoor.pl Go.Proofs.YtofmkdagehehaaaGreatDoor.pd Go.Proofs.YtofmkdagehehaaaGreatDoor.pf Go.Proofs.YtofmkdagehehaaaGreatDoor.ra Go.Proofs.YtofmkdagehehaaaGreatDoor.rb Go.Proofs.YtofmkdagehehaaaGreatDoor.rc
set_option linter.unusedVariables false

theorem one_new (W : World) (u : Value) (t : TypeId) : (W.alloc (.cells #[u] t)).cell? ⟨W.heap.size, 0, none⟩ = some u := by
  rw [World.cell?_alloc_at _ _ _ _ rfl]; rfl

def lenV : Value → Nat | .slice _ n _ => n | _ => 0

def upL (s : ByteArray) (k : Nat) : List Int := btL s s.size ++ (128 :: List.replicate k 0)
theorem upL_next (s : ByteArray) (k : Nat) : upL s k ++ [0] = upL s (k + 1) := by simp [upL, List.replicate_succ']
def fullL (s : ByteArray) (z : Nat) (c : Int) (i : Nat) : List Int := upL s z ++ (lowB c 8).take i
theorem lowB_at (c : Int) : ∀ i, i < 8 → (lowB c 8)[i]? = some (c / 256 ^ (7 - i) % 256)
  | 0, _ => rfl
  | 1, _ => rfl
  | 2, _ => rfl
  | 3, _ => rfl
  | 4, _ => rfl
  | 5, _ => rfl
  | 6, _ => rfl
  | 7, _ => rfl
theorem fullL_next (s : ByteArray) (z : Nat) (c u : Int) (i : Nat) (hi : i < 8) (hu : u = c / 256 ^ (7 - i) % 256) : fullL s z c i ++ [u] = fullL s z c (i + 1) := by
  rw [fullL, fullL, List.append_assoc, List.take_add_one, lowB_at c i hi, hu]
  rfl
theorem pow_back (i : Nat) (h : i < 8) : (2 : Int) ^ (56 - 8 * i) = 256 ^ (7 - i) := by
  rw [show 56 - 8 * i = 8 * (7 - i) by omega, pow256]

theorem lowB_rng (c : Int) (k : Nat) : ∀ x ∈ lowB c k, 0 ≤ x ∧ x ≤ 255 := by
  induction k with
  | zero => intro x hx; cases hx
  | succ k ih =>
    intro x hx
    rcases List.mem_cons.1 hx with rfl | h
    · omega
    · exact ih x h
theorem padL_rng (n : Nat) : ∀ x ∈ padL n, 0 ≤ x ∧ x ≤ 255 := by
  intro x hx
  rcases List.mem_cons.1 hx with rfl | h
  · omega
  · rcases List.mem_append.1 h with h | h
    · have := (List.mem_replicate.1 h).2; omega
    · exact lowB_rng _ _ x h
theorem pad_at (s : ByteArray) (i : Nat) (hi : i < (padB s).size) : (btL s s.size ++ padL s.size).getD i 0 = bt (padB s) i := by
  rcases Nat.lt_or_ge i s.size with h | h
  · rw [padB, bt_append_left _ _ _ h, List.getD, List.getElem?_append_left (by rw [btL_length]; exact h)]
    exact btL_get s s.size i h
  · obtain ⟨j, rfl⟩ : ∃ j, i = s.size + j := ⟨i - s.size, by omega⟩
    have hj : j < (padL s.size).length := by
      rw [padB, ByteArray.size_append, str_size] at hi; omega
    have hr := padL_rng s.size _ (List.getElem_mem hj)
    rw [padB, bt_append_right, str_bt _ _ hj hr.1 hr.2, List.getD, List.getElem?_append_right (by rw [btL_length]; omega), btL_length, Nat.add_sub_cancel_left, List.getElem?_eq_getElem hj]
    rfl

set_option maxHeartbeats 1600000 in
theorem padded (s : ByteArray) (w : World) (hs : s.size ≤ 140737488352256) :
    Calls Tryz.prog 240 #[.string s] w fun e w' => ∃ g cap, e = .returned (.slice (some ⟨g, 0, none⟩) (64 * padN s.size) cap) ∧ Below w.heap.size w w' ∧ Bytes w' g 0 (64 * padN s.size) (bt (padB s)) := by
  obtain ⟨v, w1, hcv, ho1, hb1⟩ := of_string w s hs
  have HO1 : Hid (OwnM _ _ _ _ _) := ho1
  have HB1 : Hid (Below _ _ _) := hb1
  clear ho1 hb1
  obtain ⟨z, HZ⟩ : ∃ z, Hid (z = zerosF s.size) := ⟨_, rfl⟩
  have hz : z < 64 := by have := HZ.out; rw [this]; unfold zerosF; omega
  have HZ2 : Hid (∀ k, k < z → (s.size + 1 + k) % 64 ≠ 56) := fun k hk => by have h1 := HZ.out; unfold zerosF at h1; omega
  have HZ3 : Hid ((s.size + 1 + z) % 64 = 56) := by show _ = _; have h1 := HZ.out; unfold zerosF at h1; omega
  go_enter Tryz.func240, Tryz.ntmps240
  go_wp2_with (at_builtin; refine append_mark rfl (.tmp 8) (.tmp 9) rfl w.heap.size v s.size _ rfl (HO1.out.alloc _) ⟨w1.heap.size, 0, none⟩ 1 128 rfl (one_new _ _ _) (by omega) (by have := HB1.out.size; simp; omega) ?_; intro v' w2 ho2 hb2; have HO2 : Hid (OwnM _ _ _ _ _) := ho2; have HB2 : Hid (Below w.heap.size w w2) := (HB1.out.alloc HB1.out.size _).trans hb2; clear ho2 hb2)
  go_loopw [3] (fun b wr => ∃ k : Nat, k ≤ z ∧ OwnM wr w.heap.size b (s.size + 1 + k) (upL s k) ∧ Below w.heap.size w wr) (fun b _ => s.size + 1 + z - lenV b)
  case atStart => exact ⟨0, by omega, HO2.out, HB2.out⟩
  case round =>
    clear hcv HO1 HB1 HO2 HB2
    obtain ⟨k, hk, hown, hbel⟩ := hrel
    have HOWN : Hid (OwnM _ _ _ _ _) := hown
    have HBEL : Hid (Below _ _ _) := hbel
    obtain ⟨m, HM⟩ : ∃ m, Hid (m = s.size + 1 + k) := ⟨_, rfl⟩
    rw [← HM.out] at HOWN
    clear hown hbel
    obtain ⟨hl, g, cap, rfl, hbg, hg, h1, h2⟩ := HOWN.out
    clear hl h1 h2
    have hmb : m ≤ 140737488352256 + 100 := by have := HM.out; omega
    by_cases hlt : k < z
    · have hq : m % 64 ≠ 56 := by have := HM.out; have := HZ2.out k hlt; rw [‹m = s.size + 1 + k›]; exact this
      have q1 : ((m : Int) % 64 != 56) = true := by rw [bne_iff_ne]; omega
      have q2 : ((m : Int).tmod 64 != 56) = true := by rw [Int.tmod_eq_emod_of_nonneg (by omega)]; exact q1
      have HQ : Hid _ := hq
      clear hq
      go_wp2_with (at_builtin; refine append_mark rfl (.tmp 15) (.tmp 16) rfl w.heap.size _ m _ rfl (HOWN.out.alloc _) ⟨wr.heap.size, 0, none⟩ 1 0 rfl (one_new _ _ _) (by omega) (by have := HBEL.out.size; simp; omega) ?_; intro v' w2 ho2 hb2; have HO2 : Hid (OwnM _ _ _ _ _) := ho2; have HB2 : Hid (Below w.heap.size w w2) := (HBEL.out.alloc HBEL.out.size _).trans hb2; clear ho2 hb2)
      go_roundw
      case rel =>
        refine ⟨k + 1, by omega, ?_, HB2.out⟩
        rw [← upL_next, show s.size + 1 + (k + 1) = m + 1 by have := HM.out; omega]
        exact HO2.out
      case measure =>
        obtain ⟨_, g2, cap2, e2, _⟩ := HO2.out
        rw [e2]
        have := HM.out
        simp only [lenV]; omega
    · have e : k = z := by omega
      subst e
      have hq : m % 64 = 56 := by have h1 := HM.out; have h2 := HZ3.out; rw [h1]; exact h2
      have q1 : ((m : Int) % 64 != 56) = false := by rw [bne_eq_false_iff_eq]; omega
      have q2 : ((m : Int).tmod 64 != 56) = false := by rw [Int.tmod_eq_emod_of_nonneg (by omega)]; exact q1
      have HQ : Hid _ := hq
      clear hq hlt
      have HF0 : Hid (fullL s k ((s.size : Int) * 8) 0 = upL s k) := by show _ = _; simp [fullL]
      go_wp2_with fail
      go_loopw [3, 5] (fun b i wr => ∃ j : Nat, j ≤ 8 ∧ i = .int .i64 j ∧ OwnM wr w.heap.size b (m + j) (fullL s k ((s.size : Int) * 8) j) ∧ Below w.heap.size w wr) (fun _ i _ => (8 - intOf i).toNat)
      case atStart => exact ⟨0, by omega, rfl, by rw [HF0.out]; exact HOWN.out, HBEL.out⟩
      case round =>
        clear HOWN HBEL q1 q2 hbg hg
        obtain ⟨j, hj, rfl, hown, hbel⟩ := hrel
        have HOWN : Hid (OwnM _ _ _ _ _) := hown
        have HBEL : Hid (Below _ _ _) := hbel
        obtain ⟨m2, HM2⟩ : ∃ m2, Hid (m2 = m + j) := ⟨_, rfl⟩
        rw [← HM2.out] at HOWN
        clear hown hbel
        obtain ⟨hl, g, cap, rfl, hbg, hg, h1, h2⟩ := HOWN.out
        clear hl h1 h2
        have hmb2 : m2 ≤ 140737488352256 + 200 := by have := HM2.out; omega
        by_cases hlt : j < 8
        · have hlt' : (j : Int) < 8 := by omega
          have hj56 : (0 : Int) ≤ 56 - 8 * (j : Int) := by omega
          go_wp2_with (at_builtin; refine append_mark rfl (.tmp 26) (.tmp 34) rfl w.heap.size _ m2 _ rfl (HOWN.out.alloc _) ⟨wr.heap.size, 0, none⟩ 1 _ rfl (one_new _ _ _) (by omega) (by have := HBEL.out.size; simp; omega) ?_; intro v' w2 ho2 hb2; have HO2 : Hid (OwnM _ _ _ _ _) := ho2; have HB2 : Hid (Below w.heap.size w w2) := (HBEL.out.alloc HBEL.out.size _).trans hb2; clear ho2 hb2)
          go_roundw
          case rel =>
            refine ⟨j + 1, by omega, by go_num, ?_, HB2.out⟩
            rw [← fullL_next s k _ _ j hlt rfl, show m + (j + 1) = m2 + 1 by have := HM2.out; omega, ← pow_back j hlt]
            exact HO2.out
          case measure => simp [intOf]; omega
        · have e : j = 8 := by omega
          subst e
          have hlt' : ¬ ((8 : Nat) : Int) < 8 := by omega
          go_wp2
          go_ret
          have hm : m2 = 64 * padN s.size := by
            have h1 := HM2.out; have h2 := HM.out; have h3 := HZ.out
            rw [padN_mul]; omega
          obtain ⟨hl, g', cap', e', _, hg', h1, _⟩ := HOWN.out
          obtain ⟨rfl, rfl⟩ : g = g' ∧ cap = cap' := by
            injection e' with e1 e2 e3
            injection e1 with e4
            injection e4 with e5
            exact ⟨e5, e3⟩
          rw [← hm]
          refine ⟨g, ⟨cap, rfl⟩, HBEL.out, hg', fun i hi => ?_⟩
          have hb := (show fullL s k ((s.size : Int) * 8) 8 = btL s s.size ++ padL s.size by
            have e8 : (lowB ((s.size : Int) * 8) 8).take 8 = lowB ((s.size : Int) * 8) 8 := List.take_of_length_le (by rw [lowB_length]; omega)
            have e9 : bitsF s.size = (s.size : Int) * 8 := by unfold bitsF; omega
            rw [fullL, upL, e8, padL, e9, ← HZ.out]
            simp)
          rw [Nat.zero_add, h1 i hi, hb]
          have key := pad_at s i (by rw [padB_size, ← hm]; exact hi)
          rw [key]
          exact ⟨rfl, bt_nonneg _ _, bt_le _ _⟩
end Go.Proofs.YtofmkdagehehaaaGreatDoor.rd

namespace Go.Proofs.YtofmkdagehehaaaGreatDoor.re
open Go.RowKit Go.PlainAid
open Go.Proofs.YtofmkdagehehaaaGreatDoor.pl Go.Proofs.YtofmkdagehehaaaGreatDoor.pd Go.Proofs.YtofmkdagehehaaaGreatDoor.pf Go.Proofs.YtofmkdagehehaaaGreatDoor.pg Go.Proofs.YtofmkdagehehaaaGreatDoor.ra Go.Proofs.YtofmkdagehehaaaGreatDoor.rb Go.Proofs.YtofmkdagehehaaaGreatDoor.rc Go.Proofs.YtofmkdagehehaaaGreatDoor.rd
set_option linter.unusedVariables false

def TT (w : World) (kk : Nat → Int) : Prop := ∀ j, j < 64 → w.cell? ⟨4, j, none⟩ = some (.int .u32 (kk j))
def FT (w : World) (v : St) : Prop := ∀ j, j < 8 → w.cell? ⟨1, j, none⟩ = some (.int .u32 (v.list.getD j 0))
theorem tt_lt {w : World} {kk : Nat → Int} (h : TT w kk) : 4 < w.heap.size := World.block_lt_of_cell? w ⟨4, 0, none⟩ (h 0 (by omega))
theorem tt_below {w w' : World} {kk : Nat → Int} {B : Nat} (x : TT w kk) (b : Below B w w') (hB : 4 < B) : TT w' kk := fun j hj => (b.cell hB).trans (x j hj)
theorem ft_below {w w' : World} {v : St} {B : Nat} (x : FT w v) (b : Below B w w') (hB : 1 < B) : FT w' v := fun j hj => (b.cell hB).trans (x j hj)
theorem bytes_below {w w' : World} {B off len : Nat} {g : Nat → Int} {b : Nat} (x : Bytes w B off len g) (h : Below b w w') (hB : B < b) : Bytes w' B off len g :=
  ⟨Nat.lt_of_lt_of_le x.1 h.size, fun j hj => ⟨(h.cell hB).trans (x.2 j hj).1, (x.2 j hj).2⟩⟩
theorem bytes_setRow {w : World} {B off len : Nat} {g : Nat → Int} (x : Bytes w B off len g) (b : Nat) (cs : Array Value) (hne : B ≠ b) : Bytes (w.setRow b cs) B off len g :=
  ⟨by have := x.1; simpa [World.setRow] using this, fun j hj => ⟨(World.cell?_of_block (w := w) (setRow_other w b B cs hne)).trans (x.2 j hj).1, (x.2 j hj).2⟩⟩
theorem cell_grow {w w' : World} {row : Option Nat} (h : w.grownBy w' row) (b i : Nat) (hb : b < w.heap.size) (hne : some b ≠ row) : w'.cell? ⟨b, i, none⟩ = w.cell? ⟨b, i, none⟩ := World.cell?_of_block (w := w) (h.block b hb hne)

structure LayR (kk : Nat → Int) (w : World) (vB g L : Nat) (G : Nat → Int) (V : St) (wr : World) : Prop where
  lv : wr.heap[vB]? = some (.cells V.cells 271 (0, 0))
  lb : Bytes wr g 0 L G
  lt : TT wr kk
  bl : Below w.heap.size w wr

set_option maxHeartbeats 1600000 in
theorem rsum (kk : Nat → Int) (v0 : St) (s : ByteArray) (w : World) (hv : v0.ok) (hsz : s.size ≤ 140737488352256) (HF : Hid (FT w v0)) (HT : Hid (TT w kk)) :
    Calls Tryz.prog 232 #[.string s] w fun e w' => e = .returned (.string (shaF kk v0 s)) ∧ Below w.heap.size w w' := by
  have h3 : 4 < w.heap.size := tt_lt HT.out
  obtain ⟨L, HL⟩ : ∃ L, Hid (L = 64 * padN s.size) := ⟨_, rfl⟩
  have hL : L ≤ 140737488352256 + 200 := by have h1 := HL.out; rw [padN_mul] at h1; unfold zerosF at h1; omega
  have HP : Hid (Calls _ _ _ _ _) := padded s w hsz
  rw [← HL.out] at HP
  obtain ⟨i5, hi, hz0, hz1, hz2⟩ := info_parts info5
  have HIN : Hid (_ ∧ _ ∧ _ ∧ _) := ⟨hi, hz0, hz1, hz2⟩
  clear hi hz0 hz1 hz2
  have H40 : Hid ((Tryz.prog.info? 271).map (·.size) = some 8) := by show _ = _; kernel_rfl
  go_enter Tryz.func232, Tryz.ntmps232
  go_wp2_with fail
  refine HP.out.mono ?_
  rintro e w1 ⟨g, cap, rfl, hb1, hby⟩
  have HB1 : Hid (Below w.heap.size w w1) := hb1
  have HBY : Hid (Bytes w1 g 0 L (bt (padB s))) := hby
  have hg1 : g < w1.heap.size := hby.1
  have hs1 : w.heap.size ≤ w1.heap.size := hb1.size
  clear hb1 hby HP
  obtain ⟨a, b, c, d, e, f, g', h'⟩ := v0
  have hft := ft_below HF.out HB1.out (by omega)
  have X0 : w1.cell? ⟨1, 0, none⟩ = some (.int .u32 a) := hft 0 (by omega)
  have X1 : w1.cell? ⟨1, 1, none⟩ = some (.int .u32 b) := hft 1 (by omega)
  have X2 : w1.cell? ⟨1, 2, none⟩ = some (.int .u32 c) := hft 2 (by omega)
  have X3 : w1.cell? ⟨1, 3, none⟩ = some (.int .u32 d) := hft 3 (by omega)
  have X4 : w1.cell? ⟨1, 4, none⟩ = some (.int .u32 e) := hft 4 (by omega)
  have X5 : w1.cell? ⟨1, 5, none⟩ = some (.int .u32 f) := hft 5 (by omega)
  have X6 : w1.cell? ⟨1, 6, none⟩ = some (.int .u32 g') := hft 6 (by omega)
  have X7 : w1.cell? ⟨1, 7, none⟩ = some (.int .u32 h') := hft 7 (by omega)
  clear hft
  go_wp2_with fail
  clear X0 X1 X2 X3 X4 X5 X6 X7
  obtain ⟨v0, hv0⟩ : ∃ v0 : St, v0 = ⟨a, b, c, d, e, f, g', h'⟩ := ⟨_, rfl⟩
  have lay0 : LayR kk w w1.heap.size g L (bt (padB s)) v0 (w1.alloc (.cells #[.int .u32 a, .int .u32 b, .int .u32 c, .int .u32 d, .int .u32 e, .int .u32 f, .int .u32 g', .int .u32 h'] 271)) := by
    subst hv0
    exact ⟨heap_alloc_new w1 _, bytes_below HBY.out ((Below.refl w1.heap.size w1).alloc (Nat.le_refl _) _) hg1, tt_below (tt_below HT.out HB1.out h3) ((Below.refl w1.heap.size w1).alloc (Nat.le_refl _) _) (by omega), HB1.out.alloc hs1 _⟩
  have LAY0 : Hid (LayR _ _ _ _ _ _ _ _) := lay0
  have HV0 : Hid v0.ok := by show v0.ok; rw [hv0]; exact hv
  have HVE : Hid _ := hv0
  generalize w1.alloc (.cells #[.int .u32 a, .int .u32 b, .int .u32 c, .int .u32 d, .int .u32 e, .int .u32 f, .int .u32 g', .int .u32 h'] 271) = w2 at *
  clear lay0 hv0 hv HBY
  go_loopw [5] (fun i wr => ∃ k P : Nat, Hid (P = 64 * k) ∧ P ≤ L ∧ i = .int .i64 P ∧ Hid (LayR kk w w1.heap.size g L (bt (padB s)) (hs kk (bt (padB s)) v0 k) wr)) (fun i _ => (L - intOf i).toNat)
  case atStart => exact ⟨0, 0, rfl, by omega, rfl, LAY0⟩
  case round =>
    clear LAY0
    obtain ⟨k, P, HPk, hPL, rfl, LAY⟩ := hrel
    have hLm : L % 64 = 0 := by have := HL.out; omega
    have hPm : P % 64 = 0 := by have := HPk.out; omega
    have HLM : Hid _ := hLm
    have HPM : Hid _ := hPm
    clear hLm hPm
    have okk := hs_ok kk (bt (padB s)) v0 HV0.out k
    have HOK : Hid (St.ok _) := okk
    clear okk
    have HE1 : Hid (hs kk (bt (padB s)) v0 (k + 1) = blockF kk (bt (padB s)) P (hs kk (bt (padB s)) v0 k)) := by show _ = _; rw [HPk.out]; rfl
    have HFIN : Hid (k = padN s.size → textF (hs kk (bt (padB s)) v0 k) = shaF kk v0 s) := fun e => by rw [e]; rfl
    by_cases hlt : P < L
    · have hlt' : (P : Int) < L := by omega
      have h63 : P + 63 < L := by have := HLM.out; have := HPM.out; omega
      revert HE1 HOK LAY
      generalize hs kk (bt (padB s)) v0 k = V
      intro LAY HOK HE1
      have hsz8 : V.cells.size = 8 := rfl
      have HZ8 : Hid ((Tryz.prog.info? 271).map (·.size) = some V.cells.size) := by show _ = _; rw [hsz8]; exact H40.out
      clear hsz8
      go_wp2_with (refine wpList_load_row rfl 271 (.tmp 4) rfl w1.heap.size rfl 271 V.cells (0, 0) _ LAY.out.lv Tryz.underlying271 rfl HZ8.out ?_)
      refine (block V g 0 L cap P (bt (padB s)) kk _ h63 (by omega) HOK.out LAY.out.lb LAY.out.lt).mono ?_
      rintro e w3 ⟨rfl, hb3⟩
      have hvlt : w1.heap.size < wr.heap.size := (Array.getElem?_eq_some_iff.1 LAY.out.lv).1
      have HV3 : Hid (w3.heap[w1.heap.size]? = some (.cells V.cells 271 (0, 0))) := (hb3.block _ hvlt).trans LAY.out.lv
      have HB3 : Hid (Below wr.heap.size wr w3) := hb3
      clear hb3
      go_wp2_with (refine wpList_store_row rfl 271 (.tmp 4) (.tmp 20) rfl w1.heap.size (blockF kk (bt (padB s)) P V).cells rfl rfl 271 V.cells HV3.out (show _ = some (blockF kk (bt (padB s)) P V).cells.size from H40.out) rfl (by simp [St.cells, Value.oneCell']) ?_)
      go_roundw
      case rel =>
        refine ⟨k + 1, P + 64, (show _ = _ by have := HPk.out; omega), by have := HLM.out; have := HPM.out; omega, by go_num, ?_⟩
        rw [HE1.out]
        exact ⟨setRow_heap _ _ _ _ _ _ HV3.out, bytes_setRow (bytes_below LAY.out.lb HB3.out (by omega)) _ _ (by omega), tt_below (tt_below LAY.out.lt HB3.out (by omega)) (below_setRow (B := w1.heap.size) (Below.refl _ _) (Nat.le_refl _) _) (by omega), below_setRow (LAY.out.bl.trans (HB3.out.mono (by omega))) hs1 _⟩
      case measure => simp [intOf]; omega
    · have hlt' : ¬ (P : Int) < L := by omega
      have ek : k = padN s.size := by have h1 := HPk.out; have h2 := HL.out; omega
      have HT2 : Hid _ := HFIN.out ek
      clear HE1 HFIN
      revert HOK LAY HT2
      generalize hs kk (bt (padB s)) v0 k = V
      intro LAY HOK HT2
      have hvlt : w1.heap.size < wr.heap.size := (Array.getElem?_eq_some_iff.1 LAY.out.lv).1
      go_wp2_with fail
      go_loopw [6, 7] (fun out i wq => ∃ j : Nat, j ≤ 8 ∧ i = .int .i64 j ∧ wq.ownsRow (w1.heap.size + 1) 5 1 out (4 * j) ((bytesL (V.list.take j)).map (Value.int .u8)) ∧ wq.heap[w1.heap.size]? = some (.cells V.cells 271 (0, 0)) ∧ Below w.heap.size w wq) (fun _ i _ => (8 - intOf i).toNat)
      case atStart => exact ⟨0, by omega, rfl, World.ownsRow_nil _ _ _ _, LAY.out.lv, LAY.out.bl⟩
      case round =>
        clear LAY hvlt
        obtain ⟨j, hj, rfl, hown, hlv, hbel⟩ := hrel
        have HOWN : Hid (World.ownsRow _ _ _ _ _ _ _) := hown
        have HLV : Hid _ := hlv
        have HBEL : Hid (Below _ _ _) := hbel
        clear hown hlv hbel
        have hvlt : w1.heap.size < wr.heap.size := (Array.getElem?_eq_some_iff.1 HLV.out).1
        by_cases hlt8 : j < 8
        · have hlt8' : (j : Int) < 8 := by omega
          have hj0 : (0 : Int) ≤ (j : Int) := by omega
          have C1 : wr.cell? ⟨w1.heap.size, j, none⟩ = some (.int .u32 (V.list.getD j 0)) := by
            rw [cell_of_row _ _ _ _ _ _ HLV.out, St.get V j hlt8]
          obtain ⟨r1, r2⟩ := St.rng V HOK.out j hlt8
          have HX : Hid _ := bytes_next V j hlt8
          revert HX C1 r1 r2
          generalize V.list.getD j 0 = x
          intro C1 r1 r2 HX
          have HW : Hid (wordB x = [IntKind.u8.wrap (x / 16777216), IntKind.u8.wrap (x / 65536), IntKind.u8.wrap (x / 256), IntKind.u8.wrap x]) := by
            show _ = _
            simp only [wordB, IntKind.wrap_u8]
          go_wp2_with fail
          go_region_held3 (fun w' => w'.cell? ⟨w1.heap.size, j, none⟩ = some (.int .u32 x)) (first | go_keep | (rw [cell_grow hgrow3 _ _ (by simp; omega) (fun e => by have := (HOWN.out.lt _ e.symm).1; omega)]; go_keep)) ((refine step_append_lies _ (by rfl) _ _ 109 (by rfl) (w1.heap.size + 1) 5 i5 (.int .u8 0) 1 1 Tryz.underlying109 HIN.out.1 HIN.out.2.1 HIN.out.2.2.1 HIN.out.2.2.2 rfl (by decide) _ _ _ (by rfl) (World.ownsRow.drew (HOWN.out.alloc _)) ⟨wr.heap.size, 0, none⟩ 4 4 [.int .u8 (IntKind.u8.wrap (x / 16777216)), .int .u8 (IntKind.u8.wrap (x / 65536)), .int .u8 (IntKind.u8.wrap (x / 256)), .int .u8 (IntKind.u8.wrap x)] (by rfl) rfl (four_new _ _ _ _ _ _) (fun u hu => by simp at hu; rcases hu with rfl | rfl | rfl | rfl <;> rfl) (by omega) (by unfold maxLen; omega) (by omega) (by simp; omega) _ rfl ?_; intro g3 cap3 w3 hown' hgrow3 hlies hglt))
          all_goals (
            have HO3 : Hid (World.ownsRow _ _ _ _ _ _ _) := hown'
            have HB3 : Hid (Below w.heap.size w w3) := Below.grown ((HBEL.out.alloc HBEL.out.size _).drew) hgrow3 (by have := HBEL.out.size; simp; omega) (fun j hj => by have := (HOWN.out.lt _ hj).1; omega)
            have HV3 : Hid (w3.heap[w1.heap.size]? = some (.cells V.cells 271 (0, 0))) := ((hgrow3.block _ (by simp; omega) (fun e => by have := (HOWN.out.lt _ e.symm).1; omega)).trans (Below.heap_alloc _ _ _ hvlt)).trans HLV.out
            clear hown' hgrow3 hlies hglt C1
            go_wp2
            go_roundw
            case rel =>
              refine ⟨j + 1, by omega, by go_num, ?_, HV3.out, HB3.out⟩
              rw [HX.out, HW.out, List.map_append]
              exact HO3.out
            case measure => simp [intOf]; omega)
        · have hlt8' : ¬ (j : Int) < 8 := by omega
          have e8 : j = 8 := by omega
          subst e8
          have hcv := own_conv wr (w1.heap.size + 1) _ (bytesL (V.list.take 8)) 32 (by rw [bytesL_length]; rfl) (by omega) HOWN.out
          have ht : str (bytesL (V.list.take 8)) = textF V := rfl
          have hve := HVE.out
          subst hve
          rw [ht, HT2.out] at hcv
          clear ht HT2
          go_wp2
          go_ret
          exact ⟨rfl, HBEL.out⟩
end Go.Proofs.YtofmkdagehehaaaGreatDoor.re

namespace Go.Proofs.YtofmkdagehehaaaGreatDoor.rf
open Go.RowKit Go.PlainAid
open Go.Proofs.YtofmkdagehehaaaGreatDoor.pl Go.Proofs.YtofmkdagehehaaaGreatDoor.pc Go.Proofs.YtofmkdagehehaaaGreatDoor.ph Go.Proofs.YtofmkdagehehaaaGreatDoor.pi Go.Proofs.YtofmkdagehehaaaGreatDoor.ft Go.Proofs.YtofmkdagehehaaaGreatDoor.pj Go.Proofs.YtofmkdagehehaaaGreatDoor.re
set_option linter.unusedVariables false

structure Tab4 (w : World) : Prop where
  t : Tab w
  ft : FT w v0
  tt : TT w kF
theorem Tab4.of {w : World} (h : St8 w 0 ∧ K64 w 2 ∧ St8 w 1 ∧ K64 w 4) : Tab4 w := ⟨⟨h.1, h.2.1⟩, h.2.2.1, h.2.2.2⟩
theorem Tab4.big {w : World} (h : Tab4 w) : 5 ≤ w.heap.size := by have h1 := tt_lt h.tt; have h2 := h.t.big; omega
theorem Tab4.below {w w' : World} {B : Nat} (h : Tab4 w) (b : Below B w w') (hB : 5 ≤ B) : Tab4 w' := ⟨h.t.below b (by omega), ft_below h.ft b (by omega), tt_below h.tt b (by omega)⟩
theorem Tab4.down {w w' : World} (h : Tab4 w) (b : Below w.heap.size w w') : Tab4 w' := h.below b h.big

theorem RSum (s : ByteArray) (w : World) (hs : s.size ≤ 140737488352256) (T : Tab4 w) :
    Calls Tryz.prog 232 #[.string s] w fun e w' => e = .returned (.string (sha s)) ∧ Below w.heap.size w w' := rsum kF v0 s w v0_ok hs T.ft T.tt

end Go.Proofs.YtofmkdagehehaaaGreatDoor.rf
