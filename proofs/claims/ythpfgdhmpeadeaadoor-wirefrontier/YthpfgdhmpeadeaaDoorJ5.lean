import Derived.Test.YthpfgdhmpeadeaaDoorG6
import Derived.Test.YthpfgdhmpeadeaaDoorJ2
import Derived.Test.YthpfgdhmpeadeaaDoorJ4
import Derived.Deep.AppendLies
import Derived.Deep.RegionHeld3
namespace Go.Proofs.YthpfgdhmpeadeaaDoor.e5
open Go.RowKit Go.PlainAid Go.Shelf
open Go.Proofs.YthpfgdhmpeadeaaDoor.ca Go.Proofs.YthpfgdhmpeadeaaDoor.cb Go.Proofs.YthpfgdhmpeadeaaDoor.cp Go.Proofs.YthpfgdhmpeadeaaDoor.ga Go.Proofs.YthpfgdhmpeadeaaDoor.kp Go.Proofs.YthpfgdhmpeadeaaDoor.na Go.Proofs.YthpfgdhmpeadeaaDoor.nb Go.Proofs.YthpfgdhmpeadeaaDoor.nc Go.Proofs.YthpfgdhmpeadeaaDoor.mi Go.Proofs.YthpfgdhmpeadeaaDoor.co Go.Proofs.YthpfgdhmpeadeaaDoor.cn Go.Proofs.YthpfgdhmpeadeaaDoor.ea Go.Proofs.YthpfgdhmpeadeaaDoor.eb Go.Proofs.YthpfgdhmpeadeaaDoor.ec Go.Proofs.YthpfgdhmpeadeaaDoor.ed Go.Proofs.YthpfgdhmpeadeaaDoor.ee Go.Proofs.YthpfgdhmpeadeaaDoor.ef Go.Proofs.YthpfgdhmpeadeaaDoor.eg Go.Proofs.YthpfgdhmpeadeaaDoor.eh Go.Proofs.YthpfgdhmpeadeaaDoor.ej Go.Proofs.YthpfgdhmpeadeaaDoor.eo Go.Proofs.YthpfgdhmpeadeaaDoor.ep Go.Proofs.YthpfgdhmpeadeaaDoor.eq Go.Proofs.YthpfgdhmpeadeaaDoor.er Go.Proofs.YthpfgdhmpeadeaaDoor.es Go.Proofs.YthpfgdhmpeadeaaDoor.ka Go.Proofs.YthpfgdhmpeadeaaDoor.bn Go.Proofs.YthpfgdhmpeadeaaDoor.e1 Go.Proofs.YthpfgdhmpeadeaaDoor.e2
set_option linter.unusedVariables false

-- a field that the kind does not name
def unnB (k a b : Int) (L : Nat) : Bool := if k = 4 then (a != 0 || b != 0) else if k = 3 then (L != 0) else (b != 0 || L != 0)
set_option maxHeartbeats 1600000 in
theorem hasC (k wd a b n : Int) (va ha : Option Addr) (L vc hl hc : Nat) (w : World) :
    Calls Tryd.prog 76 #[.agg #[.int .i64 k, .int .i64 wd, .int .i64 a, .int .i64 b, .int .i64 n, .slice va L vc, .slice ha hl hc]] w fun e w' => e = .returned (.bool (unnB k a b L)) ∧ Below w.heap.size w w' := by
  obtain ⟨W, HW⟩ : ∃ W, W = w.alloc (.cells #[.int .i64 k, .int .i64 wd, .int .i64 a, .int .i64 b, .int .i64 n, .slice va L vc, .slice ha hl hc] 49) := ⟨_, rfl⟩
  have hW : W.heap[w.heap.size]? = some (.cells #[.int .i64 k, .int .i64 wd, .int .i64 a, .int .i64 b, .int .i64 n, .slice va L vc, .slice ha hl hc] 49 (0, 0)) := by rw [HW]; exact heap_alloc_new w _
  have BW : Hid (Below w.heap.size w W) := by rw [HW]; exact (Below.refl _ _).alloc (Nat.le_refl _) _
  obtain ⟨d0, d1, d2, d3, d4, d5, d6⟩ := seven hW
  clear hW
  by_cases k4 : k = 4
  · subst k4
    by_cases a0 : a = 0
    · subst a0
      by_cases b0 : b = 0
      · subst b0
        have HU : Hid (unnB 4 0 0 L = false) := by show _ = _; simp [unnB]
        rw [HU.out]
        clear HU
        go_enter Tryd.func76, Tryd.ntmps76
        go_upto_region 1 with fail
        rw [← HW]
        clear HW
        go_wp2
        go_ret
        exact ⟨rfl, BW.out⟩
      · have q2 : (b != 0) = true := by simp [b0]
        clear b0
        have HU : Hid (unnB 4 0 b L = true) := by show _ = _; simp [unnB, q2]
        rw [HU.out]
        clear HU
        go_enter Tryd.func76, Tryd.ntmps76
        go_upto_region 1 with fail
        rw [← HW]
        clear HW
        go_wp2
        go_ret
        exact ⟨rfl, BW.out⟩
    · have q1 : (a != 0) = true := by simp [a0]
      clear a0
      have HU : Hid (unnB 4 a b L = true) := by show _ = _; simp [unnB, q1]
      rw [HU.out]
      clear HU
      go_enter Tryd.func76, Tryd.ntmps76
      go_upto_region 1 with fail
      rw [← HW]
      clear HW
      go_wp2
      go_ret
      exact ⟨rfl, BW.out⟩
  · have q4 : (k == 4) = false := by simp [k4]
    by_cases k3 : k = 3
    · subst k3
      by_cases l0 : L = 0
      · subst l0
        have HU : Hid (unnB 3 a b 0 = false) := by show _ = _; simp [unnB]
        rw [HU.out]
        clear HU
        go_enter Tryd.func76, Tryd.ntmps76
        go_upto_region 1 with fail
        rw [← HW]
        clear HW
        go_wp2
        go_ret
        exact ⟨rfl, BW.out⟩
      · have q2 : (L != 0) = true := by simp [l0]
        have q3 : ((L : Int) != 0) = true := by simp [l0]
        have HU : Hid (unnB 3 a b L = true) := by show _ = _; simp [unnB, q2]
        rw [HU.out]
        clear HU
        go_enter Tryd.func76, Tryd.ntmps76
        go_upto_region 1 with fail
        rw [← HW]
        clear HW
        go_wp2
        go_ret
        exact ⟨rfl, BW.out⟩
    · have q3 : (k == 3) = false := by simp [k3]
      by_cases b0 : b = 0
      · subst b0
        by_cases l0 : L = 0
        · subst l0
          have HU : Hid (unnB k a 0 0 = false) := by show _ = _; simp [unnB, k4, k3]
          rw [HU.out]
          clear HU
          go_enter Tryd.func76, Tryd.ntmps76
          go_upto_region 1 with fail
          rw [← HW]
          clear HW
          go_wp2
          go_ret
          exact ⟨rfl, BW.out⟩
        · have q5 : ((L : Int) != 0) = true := by simp [l0]
          have HU : Hid (unnB k a 0 L = true) := by show _ = _; simp [unnB, k4, k3, l0]
          rw [HU.out]
          clear HU
          go_enter Tryd.func76, Tryd.ntmps76
          go_upto_region 1 with fail
          rw [← HW]
          clear HW
          go_wp2
          go_ret
          exact ⟨rfl, BW.out⟩
      · have q2 : (b != 0) = true := by simp [b0]
        clear b0
        have HU : Hid (unnB k a b L = true) := by show _ = _; simp [unnB, k4, k3, q2]
        rw [HU.out]
        clear HU
        go_enter Tryd.func76, Tryd.ntmps76
        go_upto_region 1 with fail
        rw [← HW]
        clear HW
        go_wp2
        go_ret
        exact ⟨rfl, BW.out⟩

-- strides
def nx : Int → List Int → Int
  | x, [] => x
  | _, y :: ys => nx (y + 1) ys
theorem nx_snoc (l : List Int) (y : Int) : ∀ x, nx x (l ++ [y]) = y + 1 := by
  induction l with
  | nil => intro x; rfl
  | cons z zs ih => intro x; exact ih _
theorem stL_snoc (l : List Int) (y : Int) : ∀ x, stL x (l ++ [y]) = stL x l ++ [y - nx x l] := by
  induction l with
  | nil => intro x; rfl
  | cons z zs ih => intro x; rw [List.cons_append, stL, ih, stL, List.cons_append]; rfl
theorem take_snoc (xs : List Int) (k : Nat) (h : k < xs.length) : xs.take (k + 1) = xs.take k ++ [xs.getD k 0] := by
  rw [List.take_add_one, List.getElem?_eq_getElem h, List.getD_eq_getElem?_getD, List.getElem?_eq_getElem h]
  rfl
theorem nx_in (xs : List Int) (h : ∀ j, j < xs.length → 0 ≤ xs.getD j 0 ∧ xs.getD j 0 ≤ MX) : ∀ k, k ≤ xs.length → 0 ≤ nx 0 (xs.take k) ∧ nx 0 (xs.take k) ≤ 4611686018427387905 := by
  intro k hk
  cases k with
  | zero => exact ⟨by simp [nx], by simp [nx]⟩
  | succ k =>
    rw [take_snoc xs k hk, nx_snoc]
    have := h k hk
    have hMX : MX = 4611686018427387904 := rfl
    omega
theorem nums_lit (W : World) (l : List Int) (hl : l.length ≤ 1000) (B : Nat) (hB : B ≤ W.heap.size) : (W.alloc (.cells (l.map (Value.int .i64)).toArray 3)).ownsRow B 3 1 (.slice (some ⟨W.heap.size, 0, none⟩) l.length l.length) l.length (l.map (Value.int .i64)) := by
  have h := World.ownsRow_lit (base := B) (e := 3) (size := 1) W (l.map (Value.int .i64)).toArray l.length hB (by unfold maxLen; omega) (by simp)
  simpa using h
set_option maxHeartbeats 1600000 in
theorem stridesC (v : Value) (xs : List Int) (w : World) (hR : ReadsI w v xs) (hb : ∀ j, j < xs.length → 0 ≤ xs.getD j 0 ∧ xs.getD j 0 ≤ MX) (hn : xs.length ≤ 1024) :
    Calls Tryd.prog 77 #[v] w fun e w' => (∃ v', e = .returned v' ∧ w'.ownsRow w.heap.size 3 1 v' (xs.length + 1) (((xs.length : Int) :: stL 0 xs).map (Value.int .i64))) ∧ Below w.heap.size w w' := by
  obtain ⟨i3, hi, hz0, hz1, hz2⟩ := info_parts Go.Proofs.YthpfgdhmpeadeaaDoor.ti.hiE
  have HIN : Hid (_ ∧ _ ∧ _ ∧ _) := ⟨hi, hz0, hz1, hz2⟩
  clear hi hz0 hz1 hz2
  have HRD : Hid (ReadsI w v xs) := hR
  obtain ⟨a, cap, rfl, hcap, hcl⟩ := hR
  clear hcl
  have HT : Hid (stL 0 (xs.take xs.length) = stL 0 xs) := by show _ = _; rw [List.take_length]
  have HX : Hid (∀ k, k < xs.length → xs.take (k + 1) = xs.take k ++ [xs.getD k 0]) := fun k hk => take_snoc xs k hk
  have HN1 : Hid (∀ k, k ≤ xs.length → 0 ≤ nx 0 (xs.take k) ∧ nx 0 (xs.take k) ≤ 4611686018427387905) := nx_in xs hb
  have HB : Hid (∀ k, k < xs.length → 0 ≤ xs.getD k 0 ∧ xs.getD k 0 ≤ 4611686018427387904) := hb
  have HL : Hid (∀ k, k ≤ xs.length → (xs.take k).length = k) := fun k hk => by rw [List.length_take]; omega
  have HE : Hid (∀ (W : World), Below w.heap.size w W → ∀ k, k < xs.length → W.cell? (Addr.add ⟨0, 0, none⟩ 0) = W.cell? (Addr.add ⟨0, 0, none⟩ 0) ∧ ∃ bb off, a = some ⟨bb, off, none⟩ ∧ W.cell? ⟨bb, off + k, none⟩ = some (.int .i64 (xs.getD k 0))) := fun W hW k hk => by
    obtain ⟨a', cap', e, _, h⟩ := HRD.out
    have e1 := (Value.slice.inj e).1
    rcases h with h | ⟨bb, off, ha, hc⟩
    · omega
    · have c := hc k hk
      exact ⟨rfl, bb, off, by rw [e1, ha], (hW.cell (p := ⟨bb, off + k, none⟩) (World.block_lt_of_cell? _ _ c)).trans c⟩
  clear hb
  obtain ⟨n, HN⟩ : ∃ n, Hid (xs.length = n) := ⟨_, rfl⟩
  rw [HN.out] at HT HX HN1 HB HL HE hn hcap ⊢
  have O0 : Hid ((w.alloc (.cells #[.int .i64 (n : Int)] 3)).ownsRow w.heap.size 3 1 (.slice (some ⟨w.heap.size, 0, none⟩) 1 1) 1 ([(n : Int)].map (Value.int .i64))) := nums_lit w [(n : Int)] (by simp) w.heap.size (Nat.le_refl _)
  have B0 : Hid (Below w.heap.size w (w.alloc (.cells #[.int .i64 (n : Int)] 3))) := (Below.refl _ _).alloc (Nat.le_refl _) _
  go_enter Tryd.func77, Tryd.ntmps77
  go_wp2
  go_loopw [3, 4, 12] (fun v xx i wr => ∃ (k : Nat) (x : Int), k ≤ n ∧ xx = .int .i64 x ∧ i = .int .i64 k ∧ Hid (x = nx 0 (xs.take k)) ∧ Hid (wr.ownsRow w.heap.size 3 1 v (k + 1) (((n : Int) :: stL 0 (xs.take k)).map (Value.int .i64)) ∧ Below w.heap.size w wr)) (fun _ _ i _ => (n - intOf i).toNat)
  case atStart => exact ⟨0, 0, by omega, rfl, rfl, rfl, O0.out, B0.out⟩
  case round =>
    clear O0 B0
    obtain ⟨k, x, hk, rfl, rfl, HXX, HH⟩ := hrel
    obtain ⟨va, vc, hv⟩ := own_formS HH.out.1
    subst hv
    have hx := HN1.out k hk
    rw [← HXX.out] at hx
    by_cases hlt : k < n
    · have hlt' : (k : Int) < n := by omega
      obtain ⟨_, bb, off, ha, hc⟩ := HE.out wr HH.out.2 k hlt
      have hy := HB.out k hlt
      obtain ⟨y, HY⟩ : ∃ y, Hid (xs.getD k 0 = y) := ⟨_, rfl⟩
      rw [HY.out] at hc hy
      subst ha
      have HO : Hid (wr.ownsRow w.heap.size 3 1 (.slice va (k + 1) vc) (k + 1) (((n : Int) :: stL 0 (xs.take k)).map (Value.int .i64))) := HH.out.1
      have hsz : w.heap.size ≤ wr.heap.size := HH.out.2.size
      go_wp2_with (at_builtin; refine wpList_append_own _ rfl _ _ 47 rfl w.heap.size 3 i3 (.int .i64 0) 1 8 Tryd.underlying47 HIN.out.1 HIN.out.2.1 HIN.out.2.2.1 HIN.out.2.2.2 rfl (by decide) _ (k + 1) _ rfl (HO.out.alloc _) ⟨wr.heap.size, 0, none⟩ 1 1 [.int .i64 (y - x)] rfl rfl (new_text _ _ _) (one_num _) (by unfold maxLen; omega) (by omega) (by simp; omega) ?_; intro v' w5 hown' hgrow5 hnil5; have O5 : Hid (w5.ownsRow w.heap.size 3 1 v' (k + 1 + 1) (((n : Int) :: stL 0 (xs.take k)).map (Value.int .i64) ++ [.int .i64 (y - x)])) := hown'; have B5 : Hid (Below w.heap.size wr w5) := Below.grown ((Below.refl _ _).alloc hsz _) hgrow5 (by simp; omega) (fun j hj => (HO.out.lt _ hj).1); clear hown' hgrow5 hnil5)
      go_roundw
      case rel =>
        refine ⟨k + 1, y + 1, by omega, by go_num, by go_num, by show y + 1 = _; rw [HX.out k hlt, nx_snoc, HY.out], ?_, HH.out.2.trans B5.out⟩
        rw [HX.out k hlt, stL_snoc, HY.out, ← HXX.out]
        have := O5.out
        simpa using this
      case measure => simp [intOf]; omega
    · have hlt' : ¬ (k : Int) < n := by omega
      have HF : Hid (wr.ownsRow w.heap.size 3 1 (.slice va (k + 1) vc) (n + 1) (((n : Int) :: stL 0 xs).map (Value.int .i64)) ∧ Below w.heap.size w wr) := by
        obtain rfl : k = n := by omega
        have := HH.out
        rw [HT.out] at this
        exact this
      clear HH HXX
      go_wp2
      go_ret
      exact ⟨⟨_, rfl, HF.out.1⟩, HF.out.2⟩
end Go.Proofs.YthpfgdhmpeadeaaDoor.e5

namespace Go.Proofs.YthpfgdhmpeadeaaDoor.e6
open Go.RowKit Go.PlainAid Go.Shelf
open Go.Proofs.YthpfgdhmpeadeaaDoor.ca Go.Proofs.YthpfgdhmpeadeaaDoor.cb Go.Proofs.YthpfgdhmpeadeaaDoor.cp Go.Proofs.YthpfgdhmpeadeaaDoor.ga Go.Proofs.YthpfgdhmpeadeaaDoor.kp Go.Proofs.YthpfgdhmpeadeaaDoor.na Go.Proofs.YthpfgdhmpeadeaaDoor.nb Go.Proofs.YthpfgdhmpeadeaaDoor.nc Go.Proofs.YthpfgdhmpeadeaaDoor.mi Go.Proofs.YthpfgdhmpeadeaaDoor.co Go.Proofs.YthpfgdhmpeadeaaDoor.cn Go.Proofs.YthpfgdhmpeadeaaDoor.ea Go.Proofs.YthpfgdhmpeadeaaDoor.eb Go.Proofs.YthpfgdhmpeadeaaDoor.ec Go.Proofs.YthpfgdhmpeadeaaDoor.ed Go.Proofs.YthpfgdhmpeadeaaDoor.ee Go.Proofs.YthpfgdhmpeadeaaDoor.ef Go.Proofs.YthpfgdhmpeadeaaDoor.eg Go.Proofs.YthpfgdhmpeadeaaDoor.eh Go.Proofs.YthpfgdhmpeadeaaDoor.ej Go.Proofs.YthpfgdhmpeadeaaDoor.eo Go.Proofs.YthpfgdhmpeadeaaDoor.ep Go.Proofs.YthpfgdhmpeadeaaDoor.eq Go.Proofs.YthpfgdhmpeadeaaDoor.er Go.Proofs.YthpfgdhmpeadeaaDoor.es Go.Proofs.YthpfgdhmpeadeaaDoor.ka Go.Proofs.YthpfgdhmpeadeaaDoor.bn Go.Proofs.YthpfgdhmpeadeaaDoor.e1 Go.Proofs.YthpfgdhmpeadeaaDoor.e2 Go.Proofs.YthpfgdhmpeadeaaDoor.e5
set_option linter.unusedVariables false

theorem step_strides {ops : Array Oper} {o : Oper} {a : Act} {w : World} {K : Act → World → Prop} {Q : Exit → Act → World → Prop} {E : Prop} (hg : o.guard = none) (k d : Nat)
    (hop : o.op = .call { callee := .value (.func 77), args := #[.tmp k], argTypes := #[47] }) (hd : o.dst = some d) (v : Value) (xs : List Int)
    (hy : a.tmps[k]?.getD undef = v) (HX : Hid ((∀ j, j < xs.length → 0 ≤ xs.getD j 0 ∧ xs.getD j 0 ≤ MX) ∧ xs.length ≤ 1024)) (hR : ReadsI w v xs)
    (hK : ∀ sa sl sc w', w'.ownsRow w.heap.size 3 1 (.slice sa sl sc) (xs.length + 1) (((xs.length : Int) :: stL 0 xs).map (Value.int .i64)) → Below w.heap.size w w' → K { tmps := a.tmps.setIfInBounds d (.slice sa sl sc), defers := a.defers } w') :
    if Region.wanted o (yielded ops a.tmps) = true then Oper.wp Tryd.prog o a w K Q else E := by
  have hw : Region.wanted o (yielded ops a.tmps) = true := by simp [Region.wanted, hg]
  rw [if_pos hw]
  have C := stridesC v xs w hR HX.out.1 HX.out.2
  have HKK : Hid _ := hK
  clear hK HX
  subst hy
  unfold Oper.wp execOp
  simp only [hop]
  go_simp
  refine C.mono ?_
  rintro e w' ⟨⟨v', rfl, h1⟩, h2⟩
  obtain ⟨sa, sc, rfl⟩ := own_formS h1
  exact HKK.out _ _ _ _ h1 h2
theorem lits (W : World) (l : List Int) (hl : l.length ≤ 1000) : ReadsI (W.alloc (.cells (l.map (Value.int .i64)).toArray 3)) (.slice (some ⟨W.heap.size, 0, none⟩) l.length l.length) l :=
  own_readsI (nums_lit W l hl W.heap.size (Nat.le_refl _))
-- the numbers that the kind names, in memory
set_option maxRecDepth 100000 in
set_option maxHeartbeats 3200000 in
theorem namedC (k wd a b n : Int) (va ha : Option Addr) (L vc hl hc : Nat) (xs : List Int) (w : World) (hR : ReadsI w (.slice va L vc) xs) (hx : k = 4 → (∀ j, j < xs.length → 0 ≤ xs.getD j 0 ∧ xs.getD j 0 ≤ MX) ∧ xs.length ≤ 1024) :
    Calls Tryd.prog 50 #[.agg #[.int .i64 k, .int .i64 wd, .int .i64 a, .int .i64 b, .int .i64 n, .slice va L vc, .slice ha hl hc]] w fun e w' => (∃ v', e = .returned v' ∧ ReadsI w' v' (namedL k a b n xs)) ∧ Below w.heap.size w w' := by
  obtain ⟨W, HW⟩ : ∃ W, W = w.alloc (.cells #[.int .i64 k, .int .i64 wd, .int .i64 a, .int .i64 b, .int .i64 n, .slice va L vc, .slice ha hl hc] 49) := ⟨_, rfl⟩
  have hW : W.heap[w.heap.size]? = some (.cells #[.int .i64 k, .int .i64 wd, .int .i64 a, .int .i64 b, .int .i64 n, .slice va L vc, .slice ha hl hc] 49 (0, 0)) := by rw [HW]; exact heap_alloc_new w _
  have BW : Hid (Below w.heap.size w W) := by rw [HW]; exact (Below.refl _ _).alloc (Nat.le_refl _) _
  obtain ⟨d0, d1, d2, d3, d4, d5, d6⟩ := seven hW
  have RW : Hid (ReadsI W (.slice va L vc) xs) := hR.later BW.out
  have HK4 : Hid (∀ w1, Below W.heap.size W w1 → w1.cell? ⟨w.heap.size, 4, none⟩ = some (.int .i64 n)) := fun w1 h => (seven ((h.block _ (Array.getElem?_eq_some_iff.1 hW).1).trans hW)).2.2.2.2.1
  have HK5 : Hid (∀ w1, Below W.heap.size W w1 → w1.cell? ⟨w.heap.size, 5, none⟩ = some (.slice va L vc)) := fun w1 h => (seven ((h.block _ (Array.getElem?_eq_some_iff.1 hW).1).trans hW)).2.2.2.2.2.1
  clear hW hR
  by_cases k4 : k = 4
  · have HX : Hid ((∀ j, j < xs.length → 0 ≤ xs.getD j 0 ∧ xs.getD j 0 ≤ MX) ∧ xs.length ≤ 1024) := hx k4
    subst k4
    have HNM : Hid (namedL 4 a b n xs = ((xs.length : Int) :: stL 0 xs) ++ [n]) := if_pos rfl
    rw [HNM.out]
    clear HNM hx
    obtain ⟨i3, hi, hz0, hz1, hz2⟩ := info_parts Go.Proofs.YthpfgdhmpeadeaaDoor.ti.hiE
    have HIN : Hid (_ ∧ _ ∧ _ ∧ _) := ⟨hi, hz0, hz1, hz2⟩
    clear hi hz0 hz1 hz2
    have hxl : xs.length ≤ 1024 := HX.out.2
    have HSZ : Hid (w.heap.size ≤ W.heap.size) := BW.out.size
    have RWd : Hid (ReadsI W.drew (.slice va L vc) xs) := RW.out
    have BA : Hid (Below W.heap.size W ((W.alloc (.cells #[.int .i64 n] 3)).drew)) := below_dr ((Below.refl _ _).alloc (Nat.le_refl _) _)
    have BD : Hid (Below W.heap.size W W.drew) := below_dr (Below.refl _ _)
    have RWa : Hid (ReadsI ((W.alloc (.cells #[.int .i64 n] 3)).drew) (.slice va L vc) xs) := RW.out.later BA.out
    have CA : Hid (((W.alloc (.cells #[.int .i64 n] 3)).drew).cell? ⟨W.heap.size, 0, none⟩ = some (.int .i64 n)) := by
      show (W.alloc (.cells #[.int .i64 n] 3)).cell? ⟨W.heap.size, 0, none⟩ = _
      rw [World.cell?_alloc_at _ _ _ _ rfl]; rfl
    have NA : Hid (∀ w1 : World, Below ((W.alloc (.cells #[.int .i64 n] 3)).drew).heap.size ((W.alloc (.cells #[.int .i64 n] 3)).drew) w1 → ∀ (j : Nat) (u : Value), [Value.int .i64 n][j]? = some u → w1.cell? (Addr.add ⟨W.heap.size, 0, none⟩ j) = some u) := fun w1 hb j u hu => by
      cases j with
      | zero =>
        simp at hu; subst hu
        have h0 : Addr.add ⟨W.heap.size, 0, none⟩ 0 = ⟨W.heap.size, 0, none⟩ := by simp [Addr.add]
        rw [h0]
        exact (hb.cell (World.block_lt_of_cell? _ _ CA.out)).trans CA.out
      | succ j => simp at hu
    have y5 : (W.alloc (.cells #[.int .i64 n] 3)).cell? ⟨w.heap.size, 5, none⟩ = some (.slice va L vc) := HK5.out _ ((Below.refl _ _).alloc (Nat.le_refl _) _)
    go_enter Tryd.func50, Tryd.ntmps50
    go_upto_region 1 with fail
    rw [← HW]
    clear HW
    go_upto_region 4 with fail
    go_region_law ((first
      | (have zz := HX.out; refine step_strides (by rfl) 13 14 (by rfl) (by rfl) (.slice va L vc) xs (by simp) HX (by first | exact RWd.out | exact RWa.out) ?_; intro sa sl sc w1 o1 b1; have O1 : Hid (w1.ownsRow W.heap.size 3 1 (.slice sa sl sc) (xs.length + 1) (((xs.length : Int) :: stL 0 xs).map (Value.int .i64))) := own_base o1 (by first | exact BD.out.size | exact BA.out.size); have B1 : Hid (Below W.heap.size W w1) := (by first | exact below2 BD.out b1 (Nat.le_refl _) | exact below2 BA.out b1 (Nat.le_refl _)); have y4 := HK4.out w1 B1.out; (try have NB : Hid (∀ (j : Nat) (u : Value), [Value.int .i64 n][j]? = some u → w1.cell? (Addr.add ⟨W.heap.size, 0, none⟩ j) = some u) := NA.out w1 b1); clear o1 b1 zz HX)
      | (have oo := O1.out; refine step_append_lies _ (by rfl) (.tmp 14) (.tmp 17) 47 (by rfl) W.heap.size 3 i3 (.int .i64 0) 1 8 Tryd.underlying47 HIN.out.1 HIN.out.2.1 HIN.out.2.2.1 HIN.out.2.2.2 rfl (by decide) (.slice sa sl sc) (xs.length + 1) _ (by simp [Act.eval]) (oo.alloc _) ⟨w1.heap.size, 0, none⟩ 1 1 [.int .i64 n] (by simp [Act.eval]) rfl (new_text _ _ _) (one_num _) (by omega) (by unfold maxLen; omega) (by omega) (by have := B1.out.size; simp; omega) _ rfl ?_; intro g5 c5 w5 ho5 hg5 hl5 hlt5; have O5 : Hid (World.ownsRow _ _ _ _ _ _ _) := ho5; have B5 : Hid (Below W.heap.size W w5) := B1.out.trans (Below.grown ((Below.refl _ _).alloc B1.out.size _) hg5 (by have := B1.out.size; simp; omega) (fun j hj => (oo.lt _ hj).1)); clear ho5 hg5 hl5 hlt5 oo O1)
      | (have oo := O1.out; refine step_append_lies _ (by rfl) (.tmp 14) (.tmp 17) 47 (by rfl) W.heap.size 3 i3 (.int .i64 0) 1 8 Tryd.underlying47 HIN.out.1 HIN.out.2.1 HIN.out.2.2.1 HIN.out.2.2.2 rfl (by decide) (.slice sa sl sc) (xs.length + 1) _ (by simp [Act.eval]) oo ⟨W.heap.size, 0, none⟩ 1 1 [.int .i64 n] (by simp [Act.eval]) rfl NB.out (one_num _) (by omega) (by unfold maxLen; omega) (by omega) B1.out.size _ rfl ?_; intro g5 c5 w5 ho5 hg5 hl5 hlt5; have O5 : Hid (World.ownsRow _ _ _ _ _ _ _) := ho5; have B5 : Hid (Below W.heap.size W w5) := B1.out.trans (Below.grown (Below.refl _ _) hg5 B1.out.size (fun j hj => (oo.lt _ hj).1)); clear ho5 hg5 hl5 hlt5 oo O1)))
    all_goals (
      go_wp2
      go_ret
      exact ⟨⟨_, rfl, by have h := O5.out; rw [show [Value.int .i64 n] = [n].map (Value.int .i64) from rfl, ← List.map_append] at h; exact own_readsI h⟩, below2 BW.out B5.out (Nat.le_refl _)⟩)
  · have q4 : (k == 4) = false := by simp [k4]
    clear hx
    by_cases k3 : k = 3
    · subst k3
      have HNM : Hid (namedL 3 a b n xs = [a, b, n]) := rfl
      rw [HNM.out]
      have R3 : Hid (ReadsI (W.alloc (.cells #[.int .i64 a, .int .i64 b, .int .i64 n] 3)) (.slice (some ⟨W.heap.size, 0, none⟩) 3 3) [a, b, n]) := lits W [a, b, n] (by simp)
      have B3 : Hid (Below w.heap.size w (W.alloc (.cells #[.int .i64 a, .int .i64 b, .int .i64 n] 3))) := BW.out.alloc BW.out.size _
      go_enter Tryd.func50, Tryd.ntmps50
      go_upto_region 1 with fail
      rw [← HW]
      clear HW
      go_wp2
      go_ret
      exact ⟨⟨_, rfl, R3.out⟩, B3.out⟩
    · have q3 : (k == 3) = false := by simp [k3]
      have HNM : Hid (namedL k a b n xs = [a, n]) := by show _ = _; unfold namedL; rw [if_neg k4, if_neg k3]
      rw [HNM.out]
      clear k4 k3
      have R3 : Hid (ReadsI (W.alloc (.cells #[.int .i64 a, .int .i64 n] 3)) (.slice (some ⟨W.heap.size, 0, none⟩) 2 2) [a, n]) := lits W [a, n] (by simp)
      have B3 : Hid (Below w.heap.size w (W.alloc (.cells #[.int .i64 a, .int .i64 n] 3))) := BW.out.alloc BW.out.size _
      go_enter Tryd.func50, Tryd.ntmps50
      go_upto_region 1 with fail
      rw [← HW]
      clear HW
      go_wp2
      go_ret
      exact ⟨⟨_, rfl, R3.out⟩, B3.out⟩

-- why a proof is not written
def proofE (k wd a b n : Int) (xs : List Int) (hs : List ByteArray) : Int :=
  if 1 ≤ wd ∧ wd ≤ 32 then (if ref9 k a b n xs = 0 then (if unnB k a b xs.length then 13 else if allW wd hs then (if hs.length = num9 k a b n xs then 0 else 71) else 72) else ref9 k a b n xs) else 10
def proofT (k wd a b n : Int) (xs : List Int) (hs : List ByteArray) : ByteArray := ((((⟨#[80]⟩ : ByteArray) ++ str [wd]) ++ putB k) ++ ⟨(numsB (namedL k a b n xs)).toArray⟩) ++ ⟨(cat hs).toArray⟩
def proofV (k wd a b n : Int) (xs : List Int) (hs : List ByteArray) : Value := .tuple #[.string (if proofE k wd a b n xs hs = 0 then proofT k wd a b n xs hs else ByteArray.empty), .int .i64 (proofE k wd a b n xs hs)]
theorem proofT_is (k wd a b n : Int) (xs : List Int) (hs : List ByteArray) : bl (proofT k wd a b n xs hs) = proofB k wd a b n xs hs := by
  unfold proofT proofB
  rw [bl_app, bl_app, bl_app, bl_app, bl_one, bl_of, bl_of]
  show ((([80] ++ _) ++ _) ++ _) ++ _ = _
  rw [List.append_assoc, List.append_assoc, List.append_assoc]
  rfl
theorem unn_bare (k a b : Int) (xs : List Int) : unnB k a b xs.length = false ↔ bareP k a b xs := by
  unfold unnB bareP
  split
  · simp
  · split <;> simp
theorem all_sz {wd : Int} {hs : List ByteArray} : allW wd hs = true ↔ ∀ x ∈ hs, (x.size : Int) = wd := by
  unfold allW
  rw [List.all_eq_true]
  exact ⟨fun h x hx => by simpa using h x hx, fun h x hx => by simpa using h x hx⟩
theorem valid_iff (k wd a b n : Int) (xs : List Int) (hs : List ByteArray) : proofE k wd a b n xs hs = 0 ↔ Valid k wd a b n xs hs := by
  constructor
  · intro h
    unfold proofE at h
    split at h
    · rename_i h1
      split at h
      · rename_i h2
        split at h
        · exact absurd h (by decide)
        · rename_i h3
          split at h
          · rename_i h4
            split at h
            · rename_i h5
              exact ⟨h1.1, h1.2, h2, (unn_bare k a b xs).1 (by simpa using h3), all_sz.1 h4, h5⟩
            · exact absurd h (by decide)
          · exact absurd h (by decide)
      · rename_i h2; exact absurd h h2
    · exact absurd h (by decide)
  · intro h
    unfold proofE
    rw [if_pos ⟨h.w0, h.w1⟩, if_pos h.rf, (unn_bare k a b xs).2 h.br, if_neg (by decide), if_pos (all_sz.2 h.sz), if_pos h.ln]
set_option maxRecDepth 100000 in
set_option maxHeartbeats 3200000 in
theorem refuseProofC (k wd a b n : Int) (va ha : Option Addr) (L vc hl hc : Nat) (xs : List Int) (hs : List ByteArray) (w : World) (hR : ReadsI w (.slice va L vc) xs) (hT : ReadsT w (.slice ha hl hc) hs) (hz : xs.length ≤ 140737488355328) (hz2 : hs.length ≤ 140737488355328) :
    Calls Tryd.prog 49 #[.agg #[.int .i64 k, .int .i64 wd, .int .i64 a, .int .i64 b, .int .i64 n, .slice va L vc, .slice ha hl hc]] w fun e w' => e = .returned (.int .i64 (proofE k wd a b n xs hs)) ∧ Below w.heap.size w w' := by
  obtain ⟨W, HW⟩ : ∃ W, W = w.alloc (.cells #[.int .i64 k, .int .i64 wd, .int .i64 a, .int .i64 b, .int .i64 n, .slice va L vc, .slice ha hl hc] 49) := ⟨_, rfl⟩
  have hW : W.heap[w.heap.size]? = some (.cells #[.int .i64 k, .int .i64 wd, .int .i64 a, .int .i64 b, .int .i64 n, .slice va L vc, .slice ha hl hc] 49 (0, 0)) := by rw [HW]; exact heap_alloc_new w _
  have HWW : Hid (W.heap[w.heap.size]? = some (.cells #[.int .i64 k, .int .i64 wd, .int .i64 a, .int .i64 b, .int .i64 n, .slice va L vc, .slice ha hl hc] 49 (0, 0))) := hW
  have HLT : Hid (w.heap.size < W.heap.size) := (Array.getElem?_eq_some_iff.1 hW).1
  have BW : Hid (Below w.heap.size w W) := by rw [HW]; exact (Below.refl _ _).alloc (Nat.le_refl _) _
  obtain ⟨d0, d1, d2, d3, d4, d5, d6⟩ := seven hW
  have HL : L = xs.length := by obtain ⟨_, _, e, _⟩ := hR; exact (Value.slice.inj e).2.1
  have HM : hl = hs.length := by obtain ⟨_, _, e, _⟩ := hT; exact (Value.slice.inj e).2.1
  have CW : Hid (∀ w, Calls _ _ _ (w : World) _) := fun w => isWidthC wd w
  have CC : Hid (Calls _ _ _ _ _) := countC k a b n (.slice va L vc) xs W (hR.later BW.out) hz
  have HRT : Hid (ReadsT w (.slice ha hl hc) hs) := hT
  have HU : Hid (∀ W, Calls _ _ _ (W : World) _) := fun W => hasC k wd a b n va ha L vc hl hc W
  have AH : Hid (∀ W, ReadsT W (.slice ha hl hc) hs → Calls _ _ _ (W : World) _) := fun W h => areHashesC wd _ hs W h hz2
  have HE : Hid (proofE k wd a b n xs hs = if 1 ≤ wd ∧ wd ≤ 32 then (if ref9 k a b n xs = 0 then (if unnB k a b L then 13 else if allW wd hs then (if hl = num9 k a b n xs then 0 else 71) else 72) else ref9 k a b n xs) else 10) := by show _ = _; rw [HL, HM]; rfl
  rw [HE.out]
  have HCN : Hid (cnt9 k a b n xs = if ref9 k a b n xs = 0 then (((num9 k a b n xs : Nat) : Int), 0) else (0, ref9 k a b n xs)) := rfl
  rw [HCN.out] at CC
  clear hW hR hT HL HM HE HCN hz hz2
  obtain ⟨rf, HRF⟩ : ∃ r, Hid (ref9 k a b n xs = r) := ⟨_, rfl⟩
  obtain ⟨nu, HNU⟩ : ∃ r, Hid (num9 k a b n xs = r) := ⟨_, rfl⟩
  obtain ⟨un, HUN⟩ : ∃ r, Hid (unnB k a b L = r) := ⟨_, rfl⟩
  obtain ⟨al, HAL⟩ : ∃ r, Hid (allW wd hs = r) := ⟨_, rfl⟩
  rw [HRF.out, HNU.out] at CC ⊢
  rw [HUN.out] at HU ⊢
  rw [HAL.out] at AH ⊢
  clear HRF HNU HUN HAL
  by_cases hw : 1 ≤ wd ∧ wd ≤ 32
  · rw [if_pos hw]
    rw [decide_eq_true hw] at CW
    clear hw
    by_cases hr : rf = 0
    · rw [if_pos hr] at CC ⊢
      clear hr
      cases un with
      | true =>
        rw [if_pos rfl]
        go_enter Tryd.func49, Tryd.ntmps49
        go_upto_region 1 with fail
        rw [← HW]
        clear HW
        go_wp2_with (first
    | (go_at_call 57; refine (CW.out _).mono ?_; rintro _ wz ⟨rfl, hz⟩; rw [hz]; clear hz)
    | (go_at_call 48; refine CC.out.mono ?_; rintro _ w1 ⟨rfl, k1⟩; have B1 : Hid (Below W.heap.size W w1) := k1; have HW1 : Hid (w1.heap[w.heap.size]? = some (.cells #[.int .i64 k, .int .i64 wd, .int .i64 a, .int .i64 b, .int .i64 n, .slice va L vc, .slice ha hl hc] 49 (0, 0))) := (k1.block _ HLT.out).trans HWW.out; obtain ⟨e0, e1, e2, e3, e4, e5, e6⟩ := seven HW1.out; clear k1)
    | (go_at_call 76; refine (HU.out _).mono ?_; rintro _ w2 ⟨rfl, k2⟩; have B2 : Hid (Below W.heap.size W w2) := below2 B1.out k2 (Nat.le_refl _); obtain ⟨f0, f1, f2, f3, f4, f5, f6⟩ := seven ((B2.out.block _ HLT.out).trans HWW.out); clear k2)
    | (go_at_call 30; refine (AH.out _ ((HRT.out.later BW.out).later B2.out)).mono ?_; rintro _ wz ⟨rfl, hz⟩; rw [hz]; clear hz))
        go_ret
        exact ⟨rfl, below2 BW.out B2.out (Nat.le_refl _)⟩
      | false =>
        rw [if_neg (by decide)]
        cases al with
        | true =>
          rw [if_pos rfl]
          by_cases hq : hl = nu
          · rw [if_pos hq]
            have q1 : ((hl : Int) != (nu : Int)) = false := by rw [hq]; simp
            clear hq
            go_enter Tryd.func49, Tryd.ntmps49
            go_upto_region 1 with fail
            rw [← HW]
            clear HW
            go_wp2_with (first
    | (go_at_call 57; refine (CW.out _).mono ?_; rintro _ wz ⟨rfl, hz⟩; rw [hz]; clear hz)
    | (go_at_call 48; refine CC.out.mono ?_; rintro _ w1 ⟨rfl, k1⟩; have B1 : Hid (Below W.heap.size W w1) := k1; have HW1 : Hid (w1.heap[w.heap.size]? = some (.cells #[.int .i64 k, .int .i64 wd, .int .i64 a, .int .i64 b, .int .i64 n, .slice va L vc, .slice ha hl hc] 49 (0, 0))) := (k1.block _ HLT.out).trans HWW.out; obtain ⟨e0, e1, e2, e3, e4, e5, e6⟩ := seven HW1.out; clear k1)
    | (go_at_call 76; refine (HU.out _).mono ?_; rintro _ w2 ⟨rfl, k2⟩; have B2 : Hid (Below W.heap.size W w2) := below2 B1.out k2 (Nat.le_refl _); obtain ⟨f0, f1, f2, f3, f4, f5, f6⟩ := seven ((B2.out.block _ HLT.out).trans HWW.out); clear k2)
    | (go_at_call 30; refine (AH.out _ ((HRT.out.later BW.out).later B2.out)).mono ?_; rintro _ wz ⟨rfl, hz⟩; rw [hz]; clear hz))
            go_ret
            exact ⟨rfl, below2 BW.out B2.out (Nat.le_refl _)⟩
          · rw [if_neg hq]
            have q1 : ((hl : Int) != (nu : Int)) = true := by rw [bne_iff_ne]; omega
            clear hq
            go_enter Tryd.func49, Tryd.ntmps49
            go_upto_region 1 with fail
            rw [← HW]
            clear HW
            go_wp2_with (first
    | (go_at_call 57; refine (CW.out _).mono ?_; rintro _ wz ⟨rfl, hz⟩; rw [hz]; clear hz)
    | (go_at_call 48; refine CC.out.mono ?_; rintro _ w1 ⟨rfl, k1⟩; have B1 : Hid (Below W.heap.size W w1) := k1; have HW1 : Hid (w1.heap[w.heap.size]? = some (.cells #[.int .i64 k, .int .i64 wd, .int .i64 a, .int .i64 b, .int .i64 n, .slice va L vc, .slice ha hl hc] 49 (0, 0))) := (k1.block _ HLT.out).trans HWW.out; obtain ⟨e0, e1, e2, e3, e4, e5, e6⟩ := seven HW1.out; clear k1)
    | (go_at_call 76; refine (HU.out _).mono ?_; rintro _ w2 ⟨rfl, k2⟩; have B2 : Hid (Below W.heap.size W w2) := below2 B1.out k2 (Nat.le_refl _); obtain ⟨f0, f1, f2, f3, f4, f5, f6⟩ := seven ((B2.out.block _ HLT.out).trans HWW.out); clear k2)
    | (go_at_call 30; refine (AH.out _ ((HRT.out.later BW.out).later B2.out)).mono ?_; rintro _ wz ⟨rfl, hz⟩; rw [hz]; clear hz))
            go_ret
            exact ⟨rfl, below2 BW.out B2.out (Nat.le_refl _)⟩
        | false =>
          rw [if_neg (by decide)]
          go_enter Tryd.func49, Tryd.ntmps49
          go_upto_region 1 with fail
          rw [← HW]
          clear HW
          go_wp2_with (first
    | (go_at_call 57; refine (CW.out _).mono ?_; rintro _ wz ⟨rfl, hz⟩; rw [hz]; clear hz)
    | (go_at_call 48; refine CC.out.mono ?_; rintro _ w1 ⟨rfl, k1⟩; have B1 : Hid (Below W.heap.size W w1) := k1; have HW1 : Hid (w1.heap[w.heap.size]? = some (.cells #[.int .i64 k, .int .i64 wd, .int .i64 a, .int .i64 b, .int .i64 n, .slice va L vc, .slice ha hl hc] 49 (0, 0))) := (k1.block _ HLT.out).trans HWW.out; obtain ⟨e0, e1, e2, e3, e4, e5, e6⟩ := seven HW1.out; clear k1)
    | (go_at_call 76; refine (HU.out _).mono ?_; rintro _ w2 ⟨rfl, k2⟩; have B2 : Hid (Below W.heap.size W w2) := below2 B1.out k2 (Nat.le_refl _); obtain ⟨f0, f1, f2, f3, f4, f5, f6⟩ := seven ((B2.out.block _ HLT.out).trans HWW.out); clear k2)
    | (go_at_call 30; refine (AH.out _ ((HRT.out.later BW.out).later B2.out)).mono ?_; rintro _ wz ⟨rfl, hz⟩; rw [hz]; clear hz))
          go_ret
          exact ⟨rfl, below2 BW.out B2.out (Nat.le_refl _)⟩
    · rw [if_neg hr] at CC ⊢
      have q1 : (rf != 0) = true := by rw [bne_iff_ne]; exact hr
      clear hr
      go_enter Tryd.func49, Tryd.ntmps49
      go_upto_region 1 with fail
      rw [← HW]
      clear HW
      go_wp2_with (first
    | (go_at_call 57; refine (CW.out _).mono ?_; rintro _ wz ⟨rfl, hz⟩; rw [hz]; clear hz)
    | (go_at_call 48; refine CC.out.mono ?_; rintro _ w1 ⟨rfl, k1⟩; have B1 : Hid (Below W.heap.size W w1) := k1; have HW1 : Hid (w1.heap[w.heap.size]? = some (.cells #[.int .i64 k, .int .i64 wd, .int .i64 a, .int .i64 b, .int .i64 n, .slice va L vc, .slice ha hl hc] 49 (0, 0))) := (k1.block _ HLT.out).trans HWW.out; obtain ⟨e0, e1, e2, e3, e4, e5, e6⟩ := seven HW1.out; clear k1)
    | (go_at_call 76; refine (HU.out _).mono ?_; rintro _ w2 ⟨rfl, k2⟩; have B2 : Hid (Below W.heap.size W w2) := below2 B1.out k2 (Nat.le_refl _); obtain ⟨f0, f1, f2, f3, f4, f5, f6⟩ := seven ((B2.out.block _ HLT.out).trans HWW.out); clear k2)
    | (go_at_call 30; refine (AH.out _ ((HRT.out.later BW.out).later B2.out)).mono ?_; rintro _ wz ⟨rfl, hz⟩; rw [hz]; clear hz))
      go_ret
      exact ⟨rfl, below2 BW.out B1.out (Nat.le_refl _)⟩
  · rw [if_neg hw]
    rw [decide_eq_false hw] at CW
    clear hw
    go_enter Tryd.func49, Tryd.ntmps49
    go_upto_region 1 with fail
    rw [← HW]
    clear HW
    go_wp2_with (first
    | (go_at_call 57; refine (CW.out _).mono ?_; rintro _ wz ⟨rfl, hz⟩; rw [hz]; clear hz)
    | (go_at_call 48; refine CC.out.mono ?_; rintro _ w1 ⟨rfl, k1⟩; have B1 : Hid (Below W.heap.size W w1) := k1; have HW1 : Hid (w1.heap[w.heap.size]? = some (.cells #[.int .i64 k, .int .i64 wd, .int .i64 a, .int .i64 b, .int .i64 n, .slice va L vc, .slice ha hl hc] 49 (0, 0))) := (k1.block _ HLT.out).trans HWW.out; obtain ⟨e0, e1, e2, e3, e4, e5, e6⟩ := seven HW1.out; clear k1)
    | (go_at_call 76; refine (HU.out _).mono ?_; rintro _ w2 ⟨rfl, k2⟩; have B2 : Hid (Below W.heap.size W w2) := below2 B1.out k2 (Nat.le_refl _); obtain ⟨f0, f1, f2, f3, f4, f5, f6⟩ := seven ((B2.out.block _ HLT.out).trans HWW.out); clear k2)
    | (go_at_call 30; refine (AH.out _ ((HRT.out.later BW.out).later B2.out)).mono ?_; rintro _ wz ⟨rfl, hz⟩; rw [hz]; clear hz))
    go_ret
    exact ⟨rfl, BW.out⟩

theorem named_in {k a b n : Int} {xs : List Int} (h : ref9 k a b n xs = 0) : (∀ x ∈ namedL k a b n xs, 0 ≤ x ∧ x ≤ 9223372036854775807) ∧ (namedL k a b n xs).length ≤ 1026 ∧ (k = 4 → (∀ j, j < xs.length → 0 ≤ xs.getD j 0 ∧ xs.getD j 0 ≤ MX) ∧ xs.length ≤ 1024) := by
  obtain ⟨h1, h2, hn, ha, hb, hx⟩ := ref_bounds h
  have hMX : MX = 4611686018427387904 := rfl
  have key : ∀ (l : List Int) (x : Int), 0 ≤ x → Rz x l → ∀ y ∈ stL x l, 0 ≤ y ∧ y ≤ 9223372036854775807 := by
    intro l
    induction l with
    | nil => intro x _ _ y hy; exact absurd hy (List.not_mem_nil)
    | cons z zs ih =>
      intro x hx0 hr y hy
      obtain ⟨r1, r2, r3⟩ := hr
      rw [stL] at hy
      rcases List.mem_cons.1 hy with rfl | hy
      · omega
      · exact ih (z + 1) (by omega) r3 y hy
  have key2 : ∀ (l : List Int) (x : Int), Rz x l → 0 ≤ x → ∀ j, j < l.length → 0 ≤ l.getD j 0 ∧ l.getD j 0 ≤ MX := by
    intro l
    induction l with
    | nil => intro x _ _ j hj; exact absurd hj (by simp)
    | cons z zs ih =>
      intro x hr hx0 j hj
      obtain ⟨r1, r2, r3⟩ := hr
      cases j with
      | zero => exact ⟨by show 0 ≤ z; omega, r2⟩
      | succ j => exact ih (z + 1) r3 (by omega) j (by simpa using hj)
  refine ⟨?_, ?_, fun e => ⟨key2 xs 0 (hx e).2 (by omega), (hx e).1⟩⟩
  · unfold namedL
    by_cases k4 : k = 4
    · rw [if_pos k4]
      intro x hxm
      rcases List.mem_append.1 hxm with hxm | hxm
      · rcases List.mem_cons.1 hxm with rfl | hxm
        · have := (hx k4).1; omega
        · exact key xs 0 (by omega) (hx k4).2 x hxm
      · simp at hxm; subst hxm; omega
    · rw [if_neg k4]
      have ha' := ha k4
      by_cases k3 : k = 3
      · rw [if_pos k3]
        have hb' := hb k3
        intro x hxm
        simp at hxm
        rcases hxm with rfl | rfl | rfl <;> omega
      · rw [if_neg k3]
        intro x hxm
        simp at hxm
        rcases hxm with rfl | rfl <;> omega
  · unfold namedL
    split
    · rename_i k4
      rw [List.length_append, List.length_cons, stL_length]
      have := (hx k4).1
      simp
      omega
    · split <;> simp
theorem cat_le (wd : Int) (xs : List ByteArray) (h : allW wd xs = true) (hw : wd ≤ 32) (hn : xs.length ≤ 1000000) : (cat xs).length ≤ 32000000 := by
  have key : ∀ l : List ByteArray, allW wd l = true → (cat l).length ≤ 32 * l.length := by
    intro l
    induction l with
    | nil => intro _; simp [cat]
    | cons x l ih =>
      intro h
      unfold allW at h ih
      rw [List.all_cons, Bool.and_eq_true] at h
      have h1 : (x.size : Int) = wd := by simpa using h.1
      have h2 := ih h.2
      have e : cat (x :: l) = x.data.toList ++ cat l := by simp [cat]
      rw [e, List.length_append, size_data, List.length_cons]
      omega
  have := key xs h
  omega
theorem add_text (a b : ByteArray) (h : a.size + b.size ≤ 9223372036854775807) : Op.stringOp .add a b = pure (.string (a ++ b)) := by
  unfold Op.stringOp
  rw [if_neg]
  have e : IntKind.i64.max = 9223372036854775807 := by decide
  rw [e]
  omega
theorem nums_size (l : List Int) (h : ∀ x ∈ l, 0 ≤ x ∧ x ≤ 9223372036854775807) (hl : l.length ≤ 2000) : (⟨(numsB l).toArray⟩ : ByteArray).size ≤ 20000 := by
  have := numsB_length l h l.length (Nat.le_refl _)
  rw [List.take_length] at this
  show (numsB l).toArray.size ≤ _
  rw [List.size_toArray]
  omega
set_option maxRecDepth 100000 in
set_option maxHeartbeats 6400000 in
theorem proofC (k wd a b n : Int) (va ha : Option Addr) (L vc hl hc : Nat) (xs : List Int) (hs : List ByteArray) (w : World) (hR : ReadsI w (.slice va L vc) xs) (hT : ReadsT w (.slice ha hl hc) hs) (hz : xs.length ≤ 140737488355328) (hz2 : hs.length ≤ 140737488355328) :
    Calls Tryd.prog 21 #[.agg #[.int .i64 k, .int .i64 wd, .int .i64 a, .int .i64 b, .int .i64 n, .slice va L vc, .slice ha hl hc]] w fun e w' => e = .returned (proofV k wd a b n xs hs) ∧ Below w.heap.size w w' := by
  obtain ⟨W, HW⟩ : ∃ W, W = w.alloc (.cells #[.int .i64 k, .int .i64 wd, .int .i64 a, .int .i64 b, .int .i64 n, .slice va L vc, .slice ha hl hc] 49) := ⟨_, rfl⟩
  have hW : W.heap[w.heap.size]? = some (.cells #[.int .i64 k, .int .i64 wd, .int .i64 a, .int .i64 b, .int .i64 n, .slice va L vc, .slice ha hl hc] 49 (0, 0)) := by rw [HW]; exact heap_alloc_new w _
  have HWW : Hid (W.heap[w.heap.size]? = some (.cells #[.int .i64 k, .int .i64 wd, .int .i64 a, .int .i64 b, .int .i64 n, .slice va L vc, .slice ha hl hc] 49 (0, 0))) := hW
  have HLT : Hid (w.heap.size < W.heap.size) := (Array.getElem?_eq_some_iff.1 hW).1
  have BW : Hid (Below w.heap.size w W) := by rw [HW]; exact (Below.refl _ _).alloc (Nat.le_refl _) _
  obtain ⟨d0, d1, d2, d3, d4, d5, d6⟩ := seven hW
  have CR : Hid (Calls _ _ _ _ _) := refuseProofC k wd a b n va ha L vc hl hc xs hs W (hR.later BW.out) (hT.later BW.out) hz hz2
  by_cases h0 : proofE k wd a b n xs hs = 0
  · have HV : Hid (proofV k wd a b n xs hs = .tuple #[.string (((((⟨#[80]⟩ : ByteArray) ++ str [wd]) ++ putB k) ++ ⟨(numsB (namedL k a b n xs)).toArray⟩) ++ ⟨(cat hs).toArray⟩), .int .i64 0]) := by show _ = _; unfold proofV; rw [h0, if_pos rfl]; rfl
    rw [HV.out]
    rw [h0] at CR
    have V := (valid_iff k wd a b n xs hs).1 h0
    obtain ⟨k1, k2, hn, _, _, _⟩ := ref_bounds V.rf
    obtain ⟨n1, n2, n3⟩ := named_in V.rf
    have hln : hs.length ≤ 70000 := by rw [V.ln]; exact num_le V.rf
    have hcat := cat_le wd hs (all_sz.2 V.sz) V.w1 (by omega)
    have hw0 := V.w0
    have hw1 := V.w1
    have RI : Hid (ReadsI W (.slice va L vc) xs) := hR.later BW.out
    have RT : Hid (ReadsT W (.slice ha hl hc) hs) := hT.later BW.out
    have HC1 : Hid (∀ W, Calls _ _ _ (W : World) _) := fun W => headC ⟨#[80]⟩ wd W (by decide) (by omega) (by omega)
    have N1 : Hid (∀ (W : World) (B : Nat), ReadsI W (.slice (some ⟨B, 0, none⟩) 1 1) [k] → Calls Tryd.prog 32 #[.slice (some ⟨B, 0, none⟩) 1 1] W fun e w' => e = .returned (.string (putB k)) ∧ Below W.heap.size W w') := fun W B h => by
      have := numbersC _ [k] W h (fun x hx => by simp at hx; subst hx; omega) (by simp)
      rw [numsB_one] at this
      exact this
    have NM : Hid (∀ W, ReadsI W (.slice va L vc) xs → Calls _ _ _ (W : World) _) := fun W h => namedC k wd a b n va ha L vc hl hc xs W h n3
    have NU : Hid (∀ W v, ReadsI W v (namedL k a b n xs) → Calls _ _ _ (W : World) _) := fun W v h => numbersC v _ W h n1 (by omega)
    have SC : Hid (∀ W, ReadsT W (.slice ha hl hc) hs → Calls _ _ _ (W : World) _) := fun W h => sideC _ hs W h (by omega) (by omega)
    have hps := (putB_size k (by omega) (by omega)).2
    have hns := nums_size _ n1 (by omega)
    have hsh : ((⟨#[80]⟩ : ByteArray) ++ str [wd]).size = 2 := by rw [ByteArray.size_append, str_size]; rfl
    have hca : (⟨(cat hs).toArray⟩ : ByteArray).size ≤ 32000000 := by show (cat hs).toArray.size ≤ _; rw [List.size_toArray]; omega
    obtain ⟨Hd, HHd⟩ : ∃ C : ByteArray, Hid ((⟨#[80]⟩ : ByteArray) ++ str [wd] = C) := ⟨_, rfl⟩
    obtain ⟨C, HC⟩ : ∃ C : ByteArray, Hid ((⟨(cat hs).toArray⟩ : ByteArray) = C) := ⟨_, rfl⟩
    obtain ⟨Y, HY⟩ : ∃ Y, Hid (putB k = Y) := ⟨_, rfl⟩
    obtain ⟨Z, HZ⟩ : ∃ C : ByteArray, Hid ((⟨(numsB (namedL k a b n xs)).toArray⟩ : ByteArray) = C) := ⟨_, rfl⟩
    obtain ⟨NL, HNL⟩ : ∃ C, Hid (namedL k a b n xs = C) := ⟨_, rfl⟩
    rw [HHd.out] at HC1 hsh ⊢
    rw [HC.out] at SC hca ⊢
    rw [HY.out] at N1 hps ⊢
    rw [HZ.out] at NU hns ⊢
    rw [HNL.out] at NM NU
    have a1 := add_text Hd Y (by omega)
    have z1 : (Hd ++ Y).size ≤ 12 := by rw [ByteArray.size_append]; omega
    have a2 := add_text (Hd ++ Y) Z (by omega)
    have z2 : (Hd ++ Y ++ Z).size ≤ 20012 := by rw [ByteArray.size_append]; omega
    have a3 := add_text (Hd ++ Y ++ Z) C (by omega)
    have PB : Hid (∀ w', Below W.heap.size W w' → w'.cell? ⟨w.heap.size, 0, none⟩ = some (.int .i64 k) ∧ w'.cell? ⟨w.heap.size, 1, none⟩ = some (.int .i64 wd) ∧ w'.cell? ⟨w.heap.size, 2, none⟩ = some (.int .i64 a) ∧ w'.cell? ⟨w.heap.size, 3, none⟩ = some (.int .i64 b) ∧ w'.cell? ⟨w.heap.size, 4, none⟩ = some (.int .i64 n) ∧ w'.cell? ⟨w.heap.size, 5, none⟩ = some (.slice va L vc) ∧ w'.cell? ⟨w.heap.size, 6, none⟩ = some (.slice ha hl hc)) := fun w' h => seven ((h.block _ HLT.out).trans HWW.out)
    have PK : Hid (∀ w1 : World, Below ((w1.alloc (.cells #[.int .i64 k] 3)).drew).heap.size ((w1.alloc (.cells #[.int .i64 k] 3)).drew) = Below ((w1.alloc (.cells #[.int .i64 k] 3)).drew).heap.size ((w1.alloc (.cells #[.int .i64 k] 3)).drew)) := fun _ => rfl
    clear HV h0 V n1 n2 n3 hn hR hT hz hz2 hW hw0 hw1 hcat hln HHd HC HY HZ HNL PK
    go_enter Tryd.func21, Tryd.ntmps21
    go_upto_region 1 with fail
    rw [← HW]
    clear HW
    go_upto_region 4 with (go_at_call 49; refine CR.out.mono ?_; rintro _ w0 ⟨rfl, k0⟩; have B0 : Hid (Below W.heap.size W w0) := k0; obtain ⟨e0, e1, e2, e3, e4, e5, e6⟩ := PB.out _ k0; clear k0)
    clear d0 d1 d2 d3 d4 d5 d6 e0 e1 e2 e3 e4 e5 e6
    have BD : Hid (Below W.heap.size W w0.drew) := below_dr B0.out
    have BA : Hid (Below W.heap.size W ((w0.alloc (.cells #[.int .i64 k] 3)).drew)) := below_dr (B0.out.alloc B0.out.size _)
    have RA : Hid (ReadsI ((w0.alloc (.cells #[.int .i64 k] 3)).drew) (.slice (some ⟨w0.heap.size, 0, none⟩) 1 1) [k]) := one_int w0 k _
    go_region_held3 (fun w' => Below W.heap.size W w' ∧ w'.cell? ⟨w.heap.size, 0, none⟩ = some (.int .i64 k) ∧ w'.cell? ⟨w.heap.size, 1, none⟩ = some (.int .i64 wd) ∧ w'.cell? ⟨w.heap.size, 2, none⟩ = some (.int .i64 a) ∧ w'.cell? ⟨w.heap.size, 3, none⟩ = some (.int .i64 b) ∧ w'.cell? ⟨w.heap.size, 4, none⟩ = some (.int .i64 n) ∧ w'.cell? ⟨w.heap.size, 5, none⟩ = some (.slice va L vc) ∧ w'.cell? ⟨w.heap.size, 6, none⟩ = some (.slice ha hl hc)) (first | exact ⟨BD.out, PB.out _ BD.out⟩ | exact ⟨BA.out, PB.out _ BA.out⟩ | exact ⟨B1.out, PB.out _ B1.out⟩ | exact ⟨B1.out.alloc B1.out.size _, PB.out _ (B1.out.alloc B1.out.size _)⟩ | exact ⟨B2.out, PB.out _ B2.out⟩ | exact ⟨B3.out, PB.out _ B3.out⟩ | exact ⟨B4.out, PB.out _ B4.out⟩ | exact ⟨B5.out, PB.out _ B5.out⟩) (first
      | (go_at_call 31; refine (HC1.out _).mono ?_; rintro _ w1 ⟨rfl, k1⟩; have B1 : Hid (Below W.heap.size W w1) := (by first | exact below2 BD.out k1 (Nat.le_refl _) | exact below2 BA.out k1 (Nat.le_refl _)); (try have RB : Hid (ReadsI w1 (.slice (some ⟨w0.heap.size, 0, none⟩) 1 1) [k]) := RA.out.later k1); clear k1)
      | (go_at_call 32; refine (NU.out _ _ R3.out).mono ?_; rintro _ w4 ⟨rfl, k4⟩; have B4 : Hid (Below W.heap.size W w4) := below2 B3.out k4 (Nat.le_refl _); clear k4)
      | (go_at_call 32; (first | refine (N1.out _ _ RB.out).mono ?_ | refine (N1.out _ _ (one_int w1 k _)).mono ?_); rintro _ w2 ⟨rfl, k2⟩; have B2 : Hid (Below W.heap.size W w2) := (by first | exact below2 B1.out k2 (Nat.le_refl _) | exact below2 (B1.out.alloc B1.out.size _) k2 (Nat.le_refl _)); clear k2)
      | (go_at_call 50; refine (NM.out _ (RI.out.later B2.out)).mono ?_; rintro _ w3 ⟨⟨v3, rfl, r3⟩, k3⟩; have R3 : Hid (ReadsI w3 v3 NL) := r3; have B3 : Hid (Below W.heap.size W w3) := below2 B2.out k3 (Nat.le_refl _); clear r3 k3)
      | (go_at_call 33; refine (SC.out _ (RT.out.later B4.out)).mono ?_; rintro _ w5 ⟨rfl, k5⟩; have B5 : Hid (Below W.heap.size W w5) := below2 B4.out k5 (Nat.le_refl _); clear k5))
    all_goals (
      go_wp2
      go_ret2
      exact ⟨rfl, below2 BW.out B5.out (Nat.le_refl _)⟩)
  · have HV : Hid (proofV k wd a b n xs hs = .tuple #[.string ByteArray.empty, .int .i64 (proofE k wd a b n xs hs)]) := by show _ = _; unfold proofV; rw [if_neg h0]
    rw [HV.out]
    obtain ⟨E, HE⟩ : ∃ E, Hid (proofE k wd a b n xs hs = E) := ⟨_, rfl⟩
    rw [HE.out] at h0 CR ⊢
    have q1 : (E != 0) = true := by rw [bne_iff_ne]; exact h0
    clear h0 HV HE hW
    go_enter Tryd.func21, Tryd.ntmps21
    go_upto_region 1 with fail
    rw [← HW]
    clear HW
    go_wp2_with (go_at_call 49; refine CR.out.mono ?_; rintro _ w0 ⟨rfl, k0⟩; have B0 : Hid (Below W.heap.size W w0) := k0; clear k0)
    go_ret2
    exact ⟨rfl, below2 BW.out B0.out (Nat.le_refl _)⟩
end Go.Proofs.YthpfgdhmpeadeaaDoor.e6
