import Derived.Test.YthppkdjekfginaaGreatDoorL4
import Derived.Test.YthppkdjekfginaaGreatDoorG5
import Derived.Test.YthppkdjekfginaaGreatDoorG4
import Derived.Deep.DeepCutAuto
import Derived.BigQuiet
import Derived.Deep.AppendLies
import Derived.Handy
import Derived.Test.YthppkdjekfginaaGreatDoorG2
namespace Go.Proofs.YthppkdjekfginaaGreatDoor.ya
open Go.RowKit Go.PlainAid
open Go.Proofs.YthppkdjekfginaaGreatDoor.pl Go.Proofs.YthppkdjekfginaaGreatDoor.pi Go.Proofs.YthppkdjekfginaaGreatDoor.pj Go.Proofs.YthppkdjekfginaaGreatDoor.ca Go.Proofs.YthppkdjekfginaaGreatDoor.cb Go.Proofs.YthppkdjekfginaaGreatDoor.cp Go.Proofs.YthppkdjekfginaaGreatDoor.ga Go.Proofs.YthppkdjekfginaaGreatDoor.gb Go.Proofs.YthppkdjekfginaaGreatDoor.aa Go.Proofs.YthppkdjekfginaaGreatDoor.ba Go.Proofs.YthppkdjekfginaaGreatDoor.bb Go.Proofs.YthppkdjekfginaaGreatDoor.ka Go.Proofs.YthppkdjekfginaaGreatDoor.kb Go.Proofs.YthppkdjekfginaaGreatDoor.kc Go.Proofs.YthppkdjekfginaaGreatDoor.kp Go.Proofs.YthppkdjekfginaaGreatDoor.lk Go.Proofs.YthppkdjekfginaaGreatDoor.qa Go.Proofs.YthppkdjekfginaaGreatDoor.qb Go.Proofs.YthppkdjekfginaaGreatDoor.ta Go.Proofs.YthppkdjekfginaaGreatDoor.tb Go.Proofs.YthppkdjekfginaaGreatDoor.td Go.Proofs.YthppkdjekfginaaGreatDoor.tc Go.Proofs.YthppkdjekfginaaGreatDoor.ua Go.Proofs.YthppkdjekfginaaGreatDoor.ub Go.Proofs.YthppkdjekfginaaGreatDoor.ma Go.Proofs.YthppkdjekfginaaGreatDoor.uh Go.Proofs.YthppkdjekfginaaGreatDoor.ui Go.Proofs.YthppkdjekfginaaGreatDoor.uj Go.Proofs.YthppkdjekfginaaGreatDoor.uk Go.Proofs.YthppkdjekfginaaGreatDoor.ul Go.Proofs.YthppkdjekfginaaGreatDoor.um Go.Proofs.YthppkdjekfginaaGreatDoor.un Go.Proofs.YthppkdjekfginaaGreatDoor.uo Go.Proofs.YthppkdjekfginaaGreatDoor.rf Go.Proofs.YthppkdjekfginaaGreatDoor.dc Go.Proofs.YthppkdjekfginaaGreatDoor.qc Go.Proofs.YthppkdjekfginaaGreatDoor.qd Go.Proofs.YthppkdjekfginaaGreatDoor.qf
set_option linter.unusedVariables false

-- the document's half
theorem xhalf (n : Nat) (h : 2 ≤ n) (hn : n ≤ 4611686018427387904) (w : World) :
    Calls Tryz.prog 24 #[.int .i64 n] w fun e w' => e = .returned (.int .i64 (half n : Nat)) ∧ w' = w := by
  go_enter Tryz.func24, Tryz.ntmps24
  go_wp2
  go_loopw [3] (fun k wr => ∃ (t j : Nat), k = .int .i64 t ∧ t < n ∧ Hid (2 ^ j = t) ∧ wr = w) (fun k _ => (n - intOf k).toNat)
  case atStart => exact ⟨1, 0, rfl, by omega, rfl, rfl⟩
  case round =>
    obtain ⟨t, j, rfl, ht, HJ, rfl⟩ := hrel
    have ht0 : 0 < t := by rw [← HJ.out]; exact p2 j
    have hw : IntKind.i64.wrap (2 * (t : Int)) = 2 * (t : Int) := by rw [IntKind.wrap_i64]; omega
    by_cases hlt : 2 * t < n
    · have hlt' : 2 * (t : Int) < n := by omega
      have HJ2 : Hid (2 ^ (j + 1) = 2 * t) := by show _ = _; rw [p2s, HJ.out]
      go_wp2
      go_roundw
      case rel => exact ⟨2 * t, j + 1, by go_num, hlt, HJ2.out, by first | rfl | trivial⟩
      case measure => simp [intOf]; omega
    · have hlt' : ¬ 2 * (t : Int) < n := by omega
      have HE : Hid (half n = t) := half_of HJ.out ht hlt
      go_wp2
      go_ret
      exact ⟨by rw [HE.out]; rfl, by first | rfl | trivial⟩
-- a path's hash, counted from the root down
theorem xat (v : Value) (path : List ByteArray) (d : Nat) (w : World) (hR : ReadsT w v path) (hd : d < path.length) (hz : path.length ≤ 140737488355328) :
    Calls Tryz.prog 25 #[v, .int .i64 d] w fun e w' => e = .returned (.string (path.getD (path.length - 1 - d) ByteArray.empty)) ∧ w' = w := by
  obtain ⟨a, cap, rfl, hc, hh⟩ := hR
  obtain ⟨b, off, ha, hq⟩ := hh.resolve_left (by omega)
  subst ha
  obtain ⟨k, HK⟩ : ∃ k, Hid (path.length - 1 - d = k) := ⟨_, rfl⟩
  have c := hq k (by have := HK.out; omega)
  rw [HK.out]
  obtain ⟨x, HX⟩ : ∃ x, Hid (path.getD k ByteArray.empty = x) := ⟨_, rfl⟩
  rw [HX.out] at c ⊢
  obtain ⟨n, HN⟩ : ∃ n, Hid (path.length = n) := ⟨_, rfl⟩
  have e1 : IntKind.i64.wrap ((n : Int) - 1) = (n : Int) - 1 := by rw [IntKind.wrap_i64]; have := HN.out; omega
  have e2 : (n : Int) - 1 - d = (k : Int) := by have := HK.out; have := HN.out; omega
  have e3 : IntKind.i64.wrap ((n : Int) - 1 - d) = (k : Int) := by rw [e2, IntKind.wrap_i64]; have := HK.out; have := HN.out; omega
  have e4 : IntKind.i64.wrap (k : Int) = k := by rw [IntKind.wrap_i64]; have := HK.out; have := HN.out; omega
  have e5 : (k : Int) < n := by have := HK.out; have := HN.out; omega
  rw [HN.out]
  clear hq hh hc hd hz
  go_enter Tryz.func25, Tryz.ntmps25
  go_wp2
  go_ret
  exact ⟨rfl, rfl⟩
theorem xnode (l r : ByteArray) (hl : l.size ≤ 32) (hr : r.size ≤ 32) (w : World) : Calls Tryz.prog 27 #[.string l, .string r] w fun e w' => e = .returned (.string (tx1 l r)) ∧ w' = w := by
  have z1 : (⟨#[1]⟩ : ByteArray).size = 1 := rfl
  have z2 : ((⟨#[1]⟩ : ByteArray) ++ l).size = 1 + l.size := size1 1 l
  go_enter Tryz.func27, Tryz.ntmps27
  go_wp2
  go_ret
  exact ⟨rfl, rfl⟩
theorem xfound (a b : ByteArray) (w : World) : Calls Tryz.prog 28 #[.string a, .string b] w fun e w' => e = .returned (clV (some (a, b))) ∧ Below w.heap.size w w' := by
  have B1 : Hid (Below w.heap.size w (w.alloc (.cells #[.string a, .string b, .bool true] 26))) := (Below.refl _ _).alloc (Nat.le_refl _) _
  have G : Hid (_ ∧ _ ∧ _) := cells3 w (.string a) (.string b) (.bool true) 26
  go_enter Tryz.func28, Tryz.ntmps28
  go_wp2
  refine bodyPost_ret (by simp [results, Tryz.results28, go_sem, G.out.1, G.out.2.1, G.out.2.2]; try rfl) rfl ?_
  exact ⟨rfl, B1.out⟩
-- the hash to which a path leads from a depth on
theorem take_lead (path : List ByteArray) (d : Nat) (hd : d < path.length) : (path.take (path.length - d)).getLastD ByteArray.empty = path.getD (path.length - 1 - d) ByteArray.empty ∧ (path.take (path.length - d)).dropLast = path.take (path.length - (d + 1)) := by
  have e : path.length - d = (path.length - (d + 1)) + 1 := by omega
  obtain ⟨g1, g2⟩ := take_last path (path.length - (d + 1)) (by omega)
  rw [e]
  refine ⟨?_, g1⟩
  rw [g2, List.headD_eq_head?_getD, List.head?_drop, List.getD_eq_getElem?_getD, show path.length - 1 - d = path.length - (d + 1) by omega]
end Go.Proofs.YthppkdjekfginaaGreatDoor.ya

namespace Go.Proofs.YthppkdjekfginaaGreatDoor.yb
open Go.RowKit Go.PlainAid
open Go.Proofs.YthppkdjekfginaaGreatDoor.pl Go.Proofs.YthppkdjekfginaaGreatDoor.pi Go.Proofs.YthppkdjekfginaaGreatDoor.pj Go.Proofs.YthppkdjekfginaaGreatDoor.rf Go.Proofs.YthppkdjekfginaaGreatDoor.ca Go.Proofs.YthppkdjekfginaaGreatDoor.cb Go.Proofs.YthppkdjekfginaaGreatDoor.cp Go.Proofs.YthppkdjekfginaaGreatDoor.ka Go.Proofs.YthppkdjekfginaaGreatDoor.kb Go.Proofs.YthppkdjekfginaaGreatDoor.kc Go.Proofs.YthppkdjekfginaaGreatDoor.ga Go.Proofs.YthppkdjekfginaaGreatDoor.gb Go.Proofs.YthppkdjekfginaaGreatDoor.va
set_option linter.unusedVariables false

def MK : ByteArray := ⟨#[109, 97, 114, 107]⟩
-- the same texts with a mark behind them
def TwinR (w : World) (B g n cp : Nat) (xs : List ByteArray) : Prop := w.ownsRow B 9 1 (.slice (some ⟨g, 0, none⟩) (n + 1) cp) (n + 1) (xs.map Value.string ++ [.string MK])
set_option maxHeartbeats 3200000 in
theorem twin (v : Value) (xs : List ByteArray) (w : World) (hR : ReadsT w v xs) (hf : Fits xs) :
    Calls Tryz.prog 6 #[v] w fun e w' => (∃ g cp, e = .returned (.slice (some ⟨g, 0, none⟩) xs.length cp) ∧ TwinR w' w.heap.size g xs.length cp xs) ∧ Below w.heap.size w w' := by
  obtain ⟨i9, hi, hz0, hz1, hz2⟩ := info_parts hi9
  have HIN : Hid (_ ∧ _ ∧ _ ∧ _) := ⟨hi, hz0, hz1, hz2⟩
  have HRD : Hid (ReadsT w v xs) := hR
  have hnm := hf.many
  obtain ⟨a, cap, rfl, hcap, hh⟩ := hR
  obtain ⟨n, HN⟩ : ∃ n, Hid (xs.length = n) := ⟨_, rfl⟩
  rw [HN.out] at HRD hcap hnm ⊢
  clear hi hz0 hz1 hz2 hh hf
  go_enter Tryz.func6, Tryz.ntmps6
  go_wp2
  go_loopw [3, 4] (fun out i wr => ∃ (u : Value) (k : Nat), k ≤ n ∧ out = u ∧ i = .int .i64 k ∧ Hid (wr.ownsRow w.heap.size 9 1 u k ((xs.take k).map Value.string)) ∧ Hid (Below w.heap.size w wr)) (fun _ i _ => (n - intOf i).toNat)
  case atStart => exact ⟨_, 0, by omega, rfl, rfl, World.ownsRow_nil _ _ _ _, Below.refl _ _⟩
  case round =>
    obtain ⟨u, k, hk, rfl, rfl, HO, HB⟩ := hrel
    obtain ⟨ua, uc, rfl⟩ := own_formS HO.out
    by_cases hlt : k < n
    · have hlt' : (k : Int) < n := by omega
      have hkx : k < xs.length := by rw [HN.out]; exact hlt
      obtain ⟨b, off, rfl, hc⟩ : ∃ b off, a = some ⟨b, off, none⟩ ∧ wr.cell? ⟨b, off + k, none⟩ = some (.string xs[k]) := by
        obtain ⟨a', cap', e, _, h0 | ⟨b, off, e4, hh⟩⟩ := HRD.out.later HB.out
        · omega
        · injection e with e1 _ _
          exact ⟨b, off, by rw [e1]; exact e4, by rw [hh k hkx, getD_at _ _ hkx]⟩
      obtain ⟨x, HX⟩ : ∃ x : ByteArray, Hid (xs[k] = x) := ⟨xs[k], (rfl : xs[k] = xs[k])⟩
      rw [HX.out] at hc
      have OX : Hid ((wr.alloc (.cells #[.string x] 9)).ownsRow w.heap.size 9 1 (.slice ua k uc) k ((xs.take k).map Value.string)) := HO.out.alloc _
      have BX : Hid (Below w.heap.size w (wr.alloc (.cells #[.string x] 9))) := HB.out.alloc HB.out.size _
      go_wp2_with (at_builtin; refine wpList_append_own _ rfl _ _ 22 rfl w.heap.size 9 i9 (.string ByteArray.empty) 1 16 Tryz.underlying22 HIN.out.1 HIN.out.2.1 HIN.out.2.2.1 HIN.out.2.2.2 rfl (by decide) _ k _ rfl OX.out ⟨wr.heap.size, 0, none⟩ 1 1 [.string x] rfl rfl (new_text _ _ _) (one_text _) (by unfold maxLen; omega) (by omega) BX.out.size ?_; intro p' w5 ho hg hnn; have HO5 : Hid (w5.ownsRow w.heap.size 9 1 p' (k + 1) ((xs.take k).map Value.string ++ [.string x])) := ho; have HB5 : Hid (Below w.heap.size w w5) := Below.grown BX.out hg BX.out.size (fun jj hj => (OX.out.lt _ hj).1); clear ho hg hnn)
      go_roundw
      case rel =>
        refine ⟨_, k + 1, by omega, rfl, by go_num, ?_, HB5.out⟩
        have e : xs.take (k + 1) = xs.take k ++ [x] := by
          rw [List.take_add_one, ← HX.out, List.getElem?_eq_getElem hkx]
          rfl
        show World.ownsRow _ _ _ _ _ _ _
        rw [e, List.map_append]
        exact HO5.out
      case measure => simp [intOf]; omega
    · have hlt' : ¬ (k : Int) < n := by omega
      obtain rfl : k = n := by omega
      have O1 : Hid (wr.ownsRow w.heap.size 9 1 (.slice ua k uc) k (xs.map Value.string)) := by
        have := HO.out
        rw [List.take_of_length_le (by rw [HN.out]; omega)] at this
        exact this
      have O1a : Hid (World.ownsRow _ _ _ _ _ _ _) := O1.out.alloc (.cells #[.string MK] 9)
      have B3a : Hid (Below w.heap.size w (wr.alloc (.cells #[.string MK] 9))) := HB.out.alloc HB.out.size _
      unfold MK at O1a B3a
      go_upto_region 7 with (at_builtin; refine wpList_append_own _ rfl _ _ 22 rfl w.heap.size 9 i9 (.string ByteArray.empty) 1 16 Tryz.underlying22 HIN.out.1 HIN.out.2.1 HIN.out.2.2.1 HIN.out.2.2.2 rfl (by decide) _ k _ rfl O1a.out ⟨wr.heap.size, 0, none⟩ 1 1 [.string MK] rfl rfl (new_text _ _ _) (one_text _) (by unfold maxLen; omega) (by omega) B3a.out.size ?_; intro f' w4 ho hg hnn; have O2 : Hid (w4.ownsRow w.heap.size 9 1 f' (k + 1) (xs.map Value.string ++ [.string MK])) := ho; have B4 : Hid (Below w.heap.size w w4) := Below.grown B3a.out hg B3a.out.size (fun j hj => (O1.out.lt _ hj).1); clear ho hg hnn)
      obtain ⟨g, cp, rfl⟩ : ∃ g cp, f' = .slice (some ⟨g, 0, none⟩) (k + 1) cp := by
        rcases O2.out.2 with ⟨_, h⟩ | ⟨g, cp, cur, h, _⟩
        · omega
        · exact ⟨g, cp, h⟩
      have hcp : k + 1 ≤ cp := by
        rcases O2.out.2 with ⟨e, _⟩ | ⟨g', cap', cur, e, _, _, hc, _⟩
        · cases e
        · injection e with _ _ e3; omega
      have hcp1 : (k : Int) ≤ cp := by omega
      clear O1 O1a B3a
      go_wp2
      go_ret
      exact ⟨⟨g, cp, rfl, O2.out⟩, B4.out⟩
end Go.Proofs.YthppkdjekfginaaGreatDoor.yb

namespace Go.Proofs.YthppkdjekfginaaGreatDoor.yc
open Go.RowKit Go.PlainAid
open Go.Proofs.YthppkdjekfginaaGreatDoor.pl Go.Proofs.YthppkdjekfginaaGreatDoor.pi Go.Proofs.YthppkdjekfginaaGreatDoor.pj Go.Proofs.YthppkdjekfginaaGreatDoor.rf Go.Proofs.YthppkdjekfginaaGreatDoor.ca Go.Proofs.YthppkdjekfginaaGreatDoor.cb Go.Proofs.YthppkdjekfginaaGreatDoor.cp Go.Proofs.YthppkdjekfginaaGreatDoor.ka Go.Proofs.YthppkdjekfginaaGreatDoor.kb Go.Proofs.YthppkdjekfginaaGreatDoor.kc Go.Proofs.YthppkdjekfginaaGreatDoor.ga Go.Proofs.YthppkdjekfginaaGreatDoor.gb Go.Proofs.YthppkdjekfginaaGreatDoor.va Go.Proofs.YthppkdjekfginaaGreatDoor.yb Go.Proofs.YthppkdjekfginaaGreatDoor.kp Go.Proofs.YthppkdjekfginaaGreatDoor.qa Go.Proofs.YthppkdjekfginaaGreatDoor.pg
set_option linter.unusedVariables false

theorem twin_set {w : World} {B g n cp : Nat} {xs : List ByteArray} (h : TwinR w B g n cp xs) (hn : xs.length = n) (k : Nat) (hk : k < n) (x : ByteArray) : TwinR (w.setCell ⟨g, k, none⟩ (.string x)) B g n cp (xs.set k x) ∧ w.grownBy (w.setCell ⟨g, k, none⟩ (.string x)) (some g) := by
  obtain ⟨h1, h2⟩ := World.ownsRow.stored h k (.string x)
  refine ⟨?_, h2⟩
  unfold TwinR
  rw [List.set_append_left _ _ (by rw [List.length_map]; omega)] at h1
  rw [List.map_set]
  exact h1
theorem twin_cell {w : World} {B g n cp : Nat} {xs : List ByteArray} (h : TwinR w B g n cp xs) (hn : xs.length = n) (k : Nat) (hk : k < n) : w.cell? ⟨g, k, none⟩ = some (.string (xs.getD k ByteArray.empty)) ∧ w.frozen? ⟨g, k, none⟩ = false := by
  have hk' : k < xs.length := by omega
  have := World.ownsRow.cellAt h k (by omega)
  rw [List.getElem?_append_left (by rw [List.length_map]; omega), List.getElem?_map, List.getElem?_eq_getElem hk'] at this
  exact ⟨by rw [this, getD_at _ _ hk']; rfl, World.ownsRow.frozenAt h k⟩
theorem twin_mark {w : World} {B g n cp : Nat} {xs : List ByteArray} (h : TwinR w B g n cp xs) (hn : xs.length = n) : w.cell? ⟨g, n, none⟩ = some (.string MK) := by
  have := World.ownsRow.cellAt h n (by omega)
  rw [List.getElem?_append_right (by rw [List.length_map]; omega), List.length_map, hn, Nat.sub_self] at this
  exact this
theorem twin_base {w : World} {B g n cp : Nat} {xs : List ByteArray} (h : TwinR w B g n cp xs) : B ≤ g ∧ g < w.heap.size := World.ownsRow.lt h g rfl
theorem twin_cap {w : World} {B g n cp : Nat} {xs : List ByteArray} (h : TwinR w B g n cp xs) : n + 1 ≤ cp := by
  rcases h.2 with ⟨e, _⟩ | ⟨g', cap', cur, e, _, _, hc, _⟩
  · cases e
  · injection e with _ _ e3; omega
theorem twin_reads {w : World} {B g n cp : Nat} {xs : List ByteArray} (h : TwinR w B g n cp xs) (hn : xs.length = n) : ReadsT w (.slice (some ⟨g, 0, none⟩) n cp) xs :=
  ⟨_, cp, by rw [hn], by have := twin_cap h; omega, .inr ⟨g, 0, rfl, fun i hi => by rw [Nat.zero_add]; exact (twin_cell h hn i (by omega)).1⟩⟩
theorem twin_later {w w' : World} {B g n cp : Nat} {xs : List ByteArray} (h : TwinR w B g n cp xs) (hb : Below w.heap.size w w') : TwinR w' B g n cp xs := own_later h hb
-- the twin's texts are those of the list again
set_option maxHeartbeats 1600000 in
theorem back (B g n cp : Nat) (v : Value) (xs ys : List ByteArray) (w : World) (hO : Old B w v xs) (hT : TwinR w B g n cp ys) (hy : ys.length = n) (hn : xs.length = n) (hf : n ≤ 140737488355328) :
    Calls Tryz.prog 9 #[.slice (some ⟨g, 0, none⟩) n cp, v] w fun e w' => e = .returned (.tuple #[]) ∧ TwinR w' B g n cp xs ∧ Kp (fun b => b = g) w w' := by
  have HO : Hid (Old B w v xs) := hO
  obtain ⟨a, cap, rfl, hcap, hh⟩ := hO
  rw [hn] at hcap hh HO ⊢
  have HN : Hid (xs.length = n) := hn
  have HB := twin_base hT
  have HBB : Hid (B ≤ g) := HB.1
  have HT : Hid (TwinR w B g n cp ys) := hT
  have HY : Hid (ys.length = n) := hy
  clear hh hn hT hy HB
  go_enter Tryz.func9, Tryz.ntmps9
  go_wp2
  go_loopw [4] (fun i wr => ∃ (k : Nat) (zs : List ByteArray), k ≤ n ∧ i = .int .i64 k ∧ Hid (TwinR wr B g n cp zs ∧ zs.length = n ∧ zs.take k = xs.take k ∧ Kp (fun b => b = g) w wr)) (fun i _ => (n - intOf i).toNat)
  case atStart => exact ⟨0, ys, by omega, rfl, ⟨HT.out, HY.out, by simp, Kp.refl _ _⟩⟩
  case round =>
    obtain ⟨k, zs, hk, rfl, HQ⟩ := hrel
    by_cases hlt : k < n
    · have hlt' : (k : Int) < n := by omega
      have hkx : k < xs.length := by rw [HN.out]; exact hlt
      obtain ⟨b, off, rfl, hc⟩ : ∃ b off, a = some ⟨b, off, none⟩ ∧ wr.cell? ⟨b, off + k, none⟩ = some (.string xs[k]) := by
        obtain ⟨a', cap', e, _, h0 | ⟨b, off, e4, _, hh⟩⟩ := HO.out.keep HQ.out.2.2.2 (fun q e => by have := HBB.out; omega)
        · rw [HN.out] at h0; omega
        · injection e with e1 _ _
          exact ⟨b, off, by rw [e1]; exact e4, by rw [hh k hkx, getD_at _ _ hkx]⟩
      obtain ⟨x, HX⟩ : ∃ x : ByteArray, Hid (xs[k] = x) := ⟨xs[k], (rfl : xs[k] = xs[k])⟩
      rw [HX.out] at hc
      obtain ⟨c1, f1⟩ := twin_cell HQ.out.1 HQ.out.2.1 k hlt
      have cpn : (k : Int) < n := by omega
      have QN : Hid (TwinR (wr.setCell ⟨g, k, none⟩ (.string x)) B g n cp (zs.set k x) ∧ (zs.set k x).length = n ∧ (zs.set k x).take (k + 1) = xs.take (k + 1) ∧ Kp (fun b => b = g) w (wr.setCell ⟨g, k, none⟩ (.string x))) := by
        refine ⟨(twin_set HQ.out.1 HQ.out.2.1 k hlt x).1, by rw [List.length_set]; exact HQ.out.2.1, ?_, HQ.out.2.2.2.trans (Kp.setCell (A := fun b => b = g) _ _ _ _ rfl)⟩
        have hz : k < zs.length := by rw [HQ.out.2.1]; exact hlt
        rw [List.take_succ_eq_append_getElem (by rw [List.length_set]; exact hz), List.take_set_of_le (Nat.le_refl _), List.getElem_set_self, HQ.out.2.2.1, List.take_succ_eq_append_getElem hkx, HX.out]
      go_wp2
      go_roundw
      case rel => exact ⟨k + 1, _, by omega, by go_num, QN⟩
      case measure => simp [intOf]; omega
    · have hlt' : ¬ (k : Int) < n := by omega
      obtain rfl : k = n := by omega
      have FIN : Hid (TwinR wr B g k cp xs) := by
        have e := HQ.out.2.2.1
        rw [List.take_of_length_le (by rw [HQ.out.2.1]; omega), List.take_of_length_le (by rw [HN.out]; omega)] at e
        rw [← e]
        exact HQ.out.1
      go_wp2
      go_returns
      exact ⟨rfl, FIN.out, HQ.out.2.2.2⟩
end Go.Proofs.YthppkdjekfginaaGreatDoor.yc

namespace Go.Proofs.YthppkdjekfginaaGreatDoor.yd
open Go.RowKit Go.PlainAid
open Go.Proofs.YthppkdjekfginaaGreatDoor.pl Go.Proofs.YthppkdjekfginaaGreatDoor.pi Go.Proofs.YthppkdjekfginaaGreatDoor.pj Go.Proofs.YthppkdjekfginaaGreatDoor.rf Go.Proofs.YthppkdjekfginaaGreatDoor.ca Go.Proofs.YthppkdjekfginaaGreatDoor.cb Go.Proofs.YthppkdjekfginaaGreatDoor.cp Go.Proofs.YthppkdjekfginaaGreatDoor.ka Go.Proofs.YthppkdjekfginaaGreatDoor.kb Go.Proofs.YthppkdjekfginaaGreatDoor.kc Go.Proofs.YthppkdjekfginaaGreatDoor.ga Go.Proofs.YthppkdjekfginaaGreatDoor.gb Go.Proofs.YthppkdjekfginaaGreatDoor.va Go.Proofs.YthppkdjekfginaaGreatDoor.yb Go.Proofs.YthppkdjekfginaaGreatDoor.yc Go.Proofs.YthppkdjekfginaaGreatDoor.kp Go.Proofs.YthppkdjekfginaaGreatDoor.qa Go.Proofs.YthppkdjekfginaaGreatDoor.pg
set_option linter.unusedVariables false

-- the words that are written over
def oth (k : Nat) : ByteArray := (⟨#[111, 116, 104, 101, 114]⟩ : ByteArray) ++ str [((97 + k % 26 : Nat) : Int)]
theorem oth_size (k : Nat) : (oth k).size = 6 := by unfold oth; rw [ByteArray.size_append]; rfl
def othL (n : Nat) : List ByteArray := (List.range n).map oth
theorem othL_len (n : Nat) : (othL n).length = n := by unfold othL; simp
set_option maxHeartbeats 1600000 in
theorem other (B g n cp : Nat) (ys : List ByteArray) (w : World) (hT : TwinR w B g n cp ys) (hy : ys.length = n) (hf : n ≤ 140737488355328) :
    Calls Tryz.prog 7 #[.slice (some ⟨g, 0, none⟩) n cp] w fun e w' => e = .returned (.tuple #[]) ∧ TwinR w' B g n cp (othL n) ∧ Kp (fun b => b = g) w w' := by
  have HT : Hid (TwinR w B g n cp ys) := hT
  have HY : Hid (ys.length = n) := hy
  clear hT hy
  go_enter Tryz.func7, Tryz.ntmps7
  go_wp2
  go_loopw [2] (fun i wr => ∃ (k : Nat) (zs : List ByteArray), k ≤ n ∧ i = .int .i64 k ∧ Hid (TwinR wr B g n cp zs ∧ zs.length = n ∧ zs.take k = othL k ∧ Kp (fun b => b = g) w wr)) (fun i _ => (n - intOf i).toNat)
  case atStart => exact ⟨0, ys, by omega, rfl, ⟨HT.out, HY.out, by simp [othL], Kp.refl _ _⟩⟩
  case round =>
    obtain ⟨k, zs, hk, rfl, HQ⟩ := hrel
    by_cases hlt : k < n
    · have hlt' : (k : Int) < n := by omega
      obtain ⟨c, HC⟩ : ∃ c : Nat, Hid (97 + k % 26 = c) := ⟨_, rfl⟩
      have z0 : (0 : Int) ≤ k := by omega
      obtain ⟨r, HR⟩ : ∃ r : Nat, Hid (k % 26 = r) := ⟨_, rfl⟩
      have hr : (k : Int) % 26 = (r : Int) := by have := HR.out; omega
      have hrt : Int.tmod (k : Int) 26 = (r : Int) := by rw [Int.tmod_eq_emod_of_nonneg z0]; exact hr
      have h2 : (97 : Int) + (r : Int) = (c : Int) := by have := HC.out; have := HR.out; omega
      have h3 : IntKind.u8.wrap (c : Int) = c := by rw [IntKind.wrap_u8']; have := HC.out; omega
      have h4 : IntKind.i64.wrap (c : Int) = c := by rw [IntKind.wrap_i64]; have := HC.out; omega
      have h5 : IntKind.i64.wrap (r : Int) = r := by rw [IntKind.wrap_i64]; have := HR.out; omega
      have hw2 : IntKind.i64.wrap ((k : Int) + 1) = (k : Int) + 1 := by rw [IntKind.wrap_i64]; omega
      have hcv := own_conv (wr.alloc (.cells #[.int .u8 (c : Int)] 5)) wr.heap.size (.slice (some ⟨wr.heap.size, 0, none⟩) 1 1) [(c : Int)] 1 rfl (by omega) (World.ownsRow_lit wr #[.int .u8 (c : Int)] 1 (Nat.le_refl _) (by unfold maxLen; omega) rfl)
      have HS : Hid (str [(c : Int)] = str [((97 + k % 26 : Nat) : Int)]) := by show _ = _; rw [HC.out]
      have hs1 : (str [(c : Int)]).size = 1 := rfl
      have OK : Hid ((⟨#[111, 116, 104, 101, 114]⟩ : ByteArray) ++ str [(c : Int)] = oth k) := by show _ = _; unfold oth; rw [HS.out]
      obtain ⟨x, HX⟩ : ∃ x, Hid (str [(c : Int)] = x) := ⟨_, rfl⟩
      rw [HX.out] at hcv hs1 OK
      have hz5 : (⟨#[111, 116, 104, 101, 114]⟩ : ByteArray).size = 5 := rfl
      have hb := twin_base HQ.out.1
      have TW : Hid (TwinR (wr.alloc (.cells #[.int .u8 (c : Int)] 5)) B g n cp zs) := twin_later HQ.out.1 ((Below.refl _ _).alloc (Nat.le_refl _) _)
      obtain ⟨c1, f1⟩ := twin_cell TW.out HQ.out.2.1 k hlt
      have QN : Hid (TwinR ((wr.alloc (.cells #[.int .u8 (c : Int)] 5)).setCell ⟨g, k, none⟩ (.string ((⟨#[111, 116, 104, 101, 114]⟩ : ByteArray) ++ x))) B g n cp (zs.set k (oth k)) ∧ (zs.set k (oth k)).length = n ∧ (zs.set k (oth k)).take (k + 1) = othL (k + 1) ∧ Kp (fun b => b = g) w ((wr.alloc (.cells #[.int .u8 (c : Int)] 5)).setCell ⟨g, k, none⟩ (.string ((⟨#[111, 116, 104, 101, 114]⟩ : ByteArray) ++ x)))) := by
        rw [OK.out]
        refine ⟨(twin_set TW.out HQ.out.2.1 k hlt _).1, by rw [List.length_set]; exact HQ.out.2.1, ?_, (HQ.out.2.2.2.trans (Kp.of_below ((Below.refl _ _).alloc (Nat.le_refl _) _))).trans (Kp.setCell (A := fun b => b = g) _ _ _ _ rfl)⟩
        have hz : k < zs.length := by rw [HQ.out.2.1]; exact hlt
        rw [List.take_succ_eq_append_getElem (by rw [List.length_set]; exact hz), List.take_set_of_le (Nat.le_refl _), List.getElem_set_self, HQ.out.2.2.1]
        unfold othL
        rw [List.range_succ, List.map_append]
        rfl
      clear hr HC HR HS hb
      go_wp2
      go_roundw
      case rel => exact ⟨k + 1, _, by omega, by go_num, QN⟩
      case measure => simp [intOf]; omega
    · have hlt' : ¬ (k : Int) < n := by omega
      obtain rfl : k = n := by omega
      have FIN : Hid (TwinR wr B g k cp (othL k)) := by
        have e := HQ.out.2.2.1
        rw [List.take_of_length_le (by rw [HQ.out.2.1]; omega)] at e
        rw [← e]
        exact HQ.out.1
      go_wp2
      go_returns
      exact ⟨rfl, FIN.out, HQ.out.2.2.2⟩
-- is the twin as it was made?
set_option maxHeartbeats 1600000 in
theorem kept_yes (B g cp : Nat) (v : Value) (xs : List ByteArray) (n : Nat) (w : World) (hn : xs.length = n) (hT : TwinR w B g n cp xs) (hR : ReadsT w v xs) (hz : n ≤ 140737488355328) :
    Calls Tryz.prog 11 #[.slice (some ⟨g, 0, none⟩) n cp, v] w fun e w' => e = .returned (.bool true) ∧ ∃ m, w' = w.drewN m := by
  have HCL : Hid (∀ k, k < n → w.cell? ⟨g, k, none⟩ = some (.string (xs.getD k ByteArray.empty))) := fun k hk => (twin_cell hT hn k hk).1
  have cm := twin_mark hT hn
  unfold MK at cm
  have hcp := twin_cap hT
  obtain ⟨a, cap, rfl, hcap, hh⟩ := hR
  rw [hn] at hcap hh ⊢
  have HH : Hid (n = 0 ∨ ∃ b off, a = some ⟨b, off, none⟩ ∧ ∀ i, i < n → w.cell? ⟨b, off + i, none⟩ = some (.string (xs.getD i ByteArray.empty))) := hh
  have e1 : IntKind.i64.wrap ((n : Int) + 1) = (n : Int) + 1 := by rw [IntKind.wrap_i64]; omega
  have e2 : ((n : Int) + 1) ≤ cp := by omega
  have e3 : ((n : Int) + 1).toNat = n + 1 := by omega
  have e4 : (n : Int) < (n : Int) + 1 := by omega
  have q0 : ((n : Int) == n) = true := beq_self_eq_true _
  clear hh hn hT
  go_enter Tryz.func11, Tryz.ntmps11
  go_wp2
  go_loopw [6] (fun i wr => ∃ k m : Nat, k ≤ n ∧ i = .int .i64 k ∧ wr = w.drewN m) (fun i _ => (n - intOf i).toNat)
  case atStart => exact ⟨0, 0, by omega, rfl, rfl⟩
  case round =>
    obtain ⟨k, m, hk, rfl, rfl⟩ := hrel
    by_cases hlt : k < n
    · have hlt' : (k : Int) < n := by omega
      have hlt2 : (k : Int) < (n : Int) + 1 := by omega
      obtain ⟨b, off, rfl, hc⟩ := HH.out.resolve_left (by omega)
      have c1 := HCL.out k hlt
      have c2 := hc k hlt
      obtain ⟨X, HX⟩ : ∃ X, Hid (xs.getD k ByteArray.empty = X) := ⟨_, rfl⟩
      rw [HX.out] at c1 c2
      have q1 : (X.toList == X.toList) = true := beq_self_eq_true _
      clear hc
      go_wp2_with fail
      go_quiet (fail)
      go_wp2
      go_roundw
      case rel => exact ⟨k + 1, _, by omega, by go_num, rfl⟩
      case measure => simp [intOf]; omega
    · have hlt' : ¬ (k : Int) < n := by omega
      go_wp2
      go_ret
      exact ⟨rfl, _, rfl⟩
end Go.Proofs.YthppkdjekfginaaGreatDoor.yd

namespace Go.Proofs.YthppkdjekfginaaGreatDoor.ye
open Go.RowKit Go.PlainAid
open Go.Proofs.YthppkdjekfginaaGreatDoor.pl Go.Proofs.YthppkdjekfginaaGreatDoor.pi Go.Proofs.YthppkdjekfginaaGreatDoor.pj Go.Proofs.YthppkdjekfginaaGreatDoor.ca Go.Proofs.YthppkdjekfginaaGreatDoor.cb Go.Proofs.YthppkdjekfginaaGreatDoor.cp Go.Proofs.YthppkdjekfginaaGreatDoor.ga Go.Proofs.YthppkdjekfginaaGreatDoor.gb Go.Proofs.YthppkdjekfginaaGreatDoor.aa Go.Proofs.YthppkdjekfginaaGreatDoor.ba Go.Proofs.YthppkdjekfginaaGreatDoor.bb Go.Proofs.YthppkdjekfginaaGreatDoor.ka Go.Proofs.YthppkdjekfginaaGreatDoor.kb Go.Proofs.YthppkdjekfginaaGreatDoor.kc Go.Proofs.YthppkdjekfginaaGreatDoor.kp Go.Proofs.YthppkdjekfginaaGreatDoor.lk Go.Proofs.YthppkdjekfginaaGreatDoor.dc Go.Proofs.YthppkdjekfginaaGreatDoor.qa Go.Proofs.YthppkdjekfginaaGreatDoor.qb Go.Proofs.YthppkdjekfginaaGreatDoor.qc Go.Proofs.YthppkdjekfginaaGreatDoor.qd Go.Proofs.YthppkdjekfginaaGreatDoor.ta Go.Proofs.YthppkdjekfginaaGreatDoor.tb Go.Proofs.YthppkdjekfginaaGreatDoor.td Go.Proofs.YthppkdjekfginaaGreatDoor.tc Go.Proofs.YthppkdjekfginaaGreatDoor.ua Go.Proofs.YthppkdjekfginaaGreatDoor.ub Go.Proofs.YthppkdjekfginaaGreatDoor.ma Go.Proofs.YthppkdjekfginaaGreatDoor.uh Go.Proofs.YthppkdjekfginaaGreatDoor.ui Go.Proofs.YthppkdjekfginaaGreatDoor.uj Go.Proofs.YthppkdjekfginaaGreatDoor.uk Go.Proofs.YthppkdjekfginaaGreatDoor.ul Go.Proofs.YthppkdjekfginaaGreatDoor.um Go.Proofs.YthppkdjekfginaaGreatDoor.un Go.Proofs.YthppkdjekfginaaGreatDoor.uo Go.Proofs.YthppkdjekfginaaGreatDoor.uq Go.Proofs.YthppkdjekfginaaGreatDoor.ur Go.Proofs.YthppkdjekfginaaGreatDoor.qj Go.Proofs.YthppkdjekfginaaGreatDoor.qf
set_option linter.unusedVariables false

-- the claimed tree of one leaf, from the root down
section
variable {wd : Int} {i a b : Nat} {leaf : ByteArray} {path : List ByteArray}
def clT (wd : Int) (i : Nat) (leaf : ByteArray) (path : List ByteArray) (a b : Nat) : Pt := (gw (HH wd) (lkI i) (fun _ => leaf) nx path a b).1
def owT (wd : Int) (i : Nat) (xs : List ByteArray) (a b : Nat) : Pt := (gw (HH wd) (lkI i) (fun p => xs.getD p ByteArray.empty) (ow (RR wd xs)) () a b).1
theorem lk_two (h2 : 2 ≤ b - a) (h1 : a ≤ i) (hi : i < a + half (b - a)) : lkI i a b = 2 ∧ lkI i (a + half (b - a)) b = 1 := by
  have hh := half_lt h2
  exact ⟨by unfold lkI; rw [if_pos (by omega), if_neg (by omega), if_pos hi], by unfold lkI; rw [if_neg (by omega)]⟩
theorem lk_three (h2 : 2 ≤ b - a) (hb : i < b) (hi : ¬ i < a + half (b - a)) : lkI i a b = 3 ∧ lkI i a (a + half (b - a)) = 1 := by
  have hh := half_lt h2
  exact ⟨by unfold lkI; rw [if_pos (by omega), if_neg (by omega), if_neg hi], by unfold lkI; rw [if_neg (by omega)]⟩
theorem clT_low (h2 : 2 ≤ b - a) (h1 : a ≤ i) (hi : i < a + half (b - a)) : clT wd i leaf path a b = ab (HH wd) (clT wd i leaf path a (a + half (b - a))) (.bare (path.getD (WL (lkI i) a (a + half (b - a))).length ByteArray.empty)) := by
  obtain ⟨k1, k2⟩ := lk_two h2 h1 hi
  unfold clT
  rw [gw_left k1 h2, gw_nx (fun a b => lkI_zero i a b) _ _ _ _ rfl, gw_bare k2]
  show ab _ _ (.bare ((path.drop _).headD ByteArray.empty)) = _
  rw [headD_drop]
theorem clT_high (h2 : 2 ≤ b - a) (hb : i < b) (hi : ¬ i < a + half (b - a)) : clT wd i leaf path a b = ab (HH wd) (.bare (path.getD (WL (lkI i) (a + half (b - a)) b).length ByteArray.empty)) (clT wd i leaf path (a + half (b - a)) b) := by
  obtain ⟨k1, k2⟩ := lk_three h2 hb hi
  unfold clT
  rw [gw_right (by omega) (by omega) h2, gw_nx (fun a b => lkI_zero i a b) _ _ _ _ rfl, gw_bare k2]
  show ab _ (.bare ((path.drop _).headD ByteArray.empty)) _ = _
  rw [headD_drop]
theorem owT_low {xs : List ByteArray} (h2 : 2 ≤ b - a) (h1 : a ≤ i) (hi : i < a + half (b - a)) : owT wd i xs a b = ab (HH wd) (owT wd i xs a (a + half (b - a))) (.bare (RR wd xs (a + half (b - a)) b)) := by
  obtain ⟨k1, k2⟩ := lk_two h2 h1 hi
  unfold owT
  rw [gw_left k1 h2, gw_bare k2]
  rfl
theorem owT_high {xs : List ByteArray} (h2 : 2 ≤ b - a) (hb : i < b) (hi : ¬ i < a + half (b - a)) : owT wd i xs a b = ab (HH wd) (.bare (RR wd xs a (a + half (b - a)))) (owT wd i xs (a + half (b - a)) b) := by
  obtain ⟨k1, k2⟩ := lk_three h2 hb hi
  unfold owT
  rw [gw_right (by omega) (by omega) h2, gw_bare k2]
  rfl
theorem clT_one (h : a ≤ i ∧ i < b) (h2 : ¬ 2 ≤ b - a) : clT wd i leaf path a b = .leaf (HH wd (tx0 leaf)) leaf := by
  unfold clT
  rw [gw_leaf ((lkI_ne i a b).2 h) h2]
theorem owT_one {xs : List ByteArray} (h : a ≤ i ∧ i < b) (h2 : ¬ 2 ≤ b - a) : owT wd i xs a b = .leaf (HH wd (tx0 (xs.getD a ByteArray.empty))) (xs.getD a ByteArray.empty) := by
  unfold owT
  rw [gw_leaf ((lkI_ne i a b).2 h) h2]
-- what the node says, and where it goes on
theorem fst_low (H : ByteArray → ByteArray) (t u : Pt) (s s' : ByteArray) : fst1 (ab H t (.bare s)) (ab H u (.bare s')) = if tx1 t.sum s = tx1 u.sum s' then fst1 t u else some (tx1 t.sum s, tx1 u.sum s') := by
  show (if tx1 t.sum s = tx1 u.sum s' then (match fst1 t u with | some c => some c | none => fst1 (.bare s) (.bare s')) else _) = _
  by_cases h : tx1 t.sum s = tx1 u.sum s'
  · rw [if_pos h, if_pos h]
    cases fst1 t u with
    | none => rfl
    | some c => rfl
  · rw [if_neg h, if_neg h]; rfl
theorem fst_high (H : ByteArray → ByteArray) (t u : Pt) (s s' : ByteArray) : fst1 (ab H (.bare s) t) (ab H (.bare s') u) = if tx1 s t.sum = tx1 s' u.sum then fst1 t u else some (tx1 s t.sum, tx1 s' u.sum) := by
  show (if tx1 s t.sum = tx1 s' u.sum then (match fst1 (.bare s) (.bare s') with | some c => some c | none => fst1 t u) else _) = _
  by_cases h : tx1 s t.sum = tx1 s' u.sum
  · rw [if_pos h, if_pos h]; rfl
  · rw [if_neg h, if_neg h]; rfl
-- the claimed part's hash is that to which the path leads
theorem clT_sum (h1 : a ≤ i) (hb : i < b) (hl : (WL (lkI i) a b).length ≤ path.length) : (clT wd i leaf path a b).sum = dl wd (LF wd leaf) (i - a) (b - a) (path.take (WL (lkI i) a b).length) := by
  have hw : ∀ {c d : Nat}, c < d → 2 ≤ lkI i c d → 2 ≤ d - c := fun {c d} hcd h => by
    unfold lkI at h
    split at h
    · split at h <;> omega
    · omega
  have hf : ∀ c d, lkI i c d ≤ 3 := fun c d => by
    unfold lkI
    split
    · split
      · omega
      · split <;> omega
    · omega
  have hc : ([LF wd leaf] : List ByteArray).take (WL (fl (lkI i)) a b).length = (WL (fl (lkI i)) a b).map (fun q => LF wd ((fun _ => leaf) q.1)) := by
    have hl := (claims i (b - a) a b rfl (by omega)).1
    match hw : WL (fl (lkI i)) a b, hl with
    | [], _ => rfl
    | [q], _ => rfl
    | _ :: _ :: _, hl => simp at hl
  have s1 := gw_gp wd (fun _ => leaf) (fun c d => lkI_zero i c d) hw hf (b - a) a b [LF wd leaf] path rfl (by omega) hc
  have s2 := (go_gp wd (lkI i) (fun _ => 0) (b - a) a b 0 [LF wd leaf] path rfl).1
  unfold clT
  rw [← s1, ← s2, lead_is wd i (LF wd leaf) (b - a) a b path rfl h1 hb hl]
end
end Go.Proofs.YthppkdjekfginaaGreatDoor.ye

namespace Go.Proofs.YthppkdjekfginaaGreatDoor.yh
open Go.RowKit Go.PlainAid
open Go.Proofs.YthppkdjekfginaaGreatDoor.pl Go.Proofs.YthppkdjekfginaaGreatDoor.pi Go.Proofs.YthppkdjekfginaaGreatDoor.pj Go.Proofs.YthppkdjekfginaaGreatDoor.ca Go.Proofs.YthppkdjekfginaaGreatDoor.cb Go.Proofs.YthppkdjekfginaaGreatDoor.cp Go.Proofs.YthppkdjekfginaaGreatDoor.gb Go.Proofs.YthppkdjekfginaaGreatDoor.ka Go.Proofs.YthppkdjekfginaaGreatDoor.kp Go.Proofs.YthppkdjekfginaaGreatDoor.qa Go.Proofs.YthppkdjekfginaaGreatDoor.yb Go.Proofs.YthppkdjekfginaaGreatDoor.yc Go.Proofs.YthppkdjekfginaaGreatDoor.yd
set_option linter.unusedVariables false

-- two twins in memory since w
structure Tz (w : World) (g1 n1 c1 : Nat) (y1 : List ByteArray) (g2 n2 c2 : Nat) (y2 : List ByteArray) (W : World) : Prop where
  fr : Below w.heap.size w W
  t1 : TwinR W w.heap.size g1 n1 c1 y1
  t2 : TwinR W w.heap.size g2 n2 c2 y2
  ne : g1 ≠ g2
theorem twin_kp {W W' : World} {B g g' n cp : Nat} {ys : List ByteArray} (h : TwinR W B g' n cp ys) (k : Kp (fun b => b = g) W W') (hne : g' ≠ g) : TwinR W' B g' n cp ys := by
  refine ⟨h.1, ?_⟩
  rcases h.2 with hn | ⟨q, cap, cur, e, hg, hgg, rest⟩
  · exact .inl hn
  · refine .inr ⟨q, cap, cur, e, hg, ?_, rest⟩
    injection e with e _ _
    injection e with e
    injection e with e _ _
    rw [k.block q (Array.getElem?_eq_some_iff.1 hgg).1 (by omega)]
    exact hgg
section
variable {w W W' : World} {g1 n1 c1 : Nat} {y1 : List ByteArray} {g2 n2 c2 : Nat} {y2 : List ByteArray}
theorem Tz.later (h : Tz w g1 n1 c1 y1 g2 n2 c2 y2 W) (b : Below W.heap.size W W') : Tz w g1 n1 c1 y1 g2 n2 c2 y2 W' := ⟨over h.fr b, twin_later h.t1 b, twin_later h.t2 b, h.ne⟩
theorem Tz.fst (h : Tz w g1 n1 c1 y1 g2 n2 c2 y2 W) {z : List ByteArray} (t : TwinR W' w.heap.size g1 n1 c1 z) (k : Kp (fun b => b = g1) W W') : Tz w g1 n1 c1 z g2 n2 c2 y2 W' :=
  ⟨h.fr.trans (k.below (fun b e => by subst e; exact (twin_base h.t1).1) h.fr.size), t, twin_kp h.t2 k (fun e => h.ne e.symm), h.ne⟩
theorem Tz.snd (h : Tz w g1 n1 c1 y1 g2 n2 c2 y2 W) {z : List ByteArray} (t : TwinR W' w.heap.size g2 n2 c2 z) (k : Kp (fun b => b = g2) W W') : Tz w g1 n1 c1 y1 g2 n2 c2 z W' :=
  ⟨h.fr.trans (k.below (fun b e => by subst e; exact (twin_base h.t2).1) h.fr.size), twin_kp h.t1 k h.ne, t, h.ne⟩
end
theorem oth_fits (n : Nat) (h : n * 16 ≤ 140737488351232) : Fits (othL n) := ⟨fun x hx => by
  unfold othL at hx
  obtain ⟨k, _, rfl⟩ := List.mem_map.1 hx
  rw [oth_size]
  decide, by rw [othL_len]; exact h⟩
end Go.Proofs.YthppkdjekfginaaGreatDoor.yh
