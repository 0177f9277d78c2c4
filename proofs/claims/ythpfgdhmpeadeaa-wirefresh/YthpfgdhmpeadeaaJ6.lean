import Derived.Test.YthpfgdhmpeadeaaJ5
import Derived.Test.YthpfgdhmpeadeaaJ2
import Derived.Test.YthpfgdhmpeadeaaG8
import Derived.Deep.RegionWith
import Derived.Deep.RegionHeldLaw
namespace Go.Proofs.Ythpfgdhmpeadeaa.f8
open Go.RowKit Go.PlainAid Go.Shelf
open Go.Proofs.Ythpfgdhmpeadeaa.ca Go.Proofs.Ythpfgdhmpeadeaa.cb Go.Proofs.Ythpfgdhmpeadeaa.cp Go.Proofs.Ythpfgdhmpeadeaa.ga Go.Proofs.Ythpfgdhmpeadeaa.kp Go.Proofs.Ythpfgdhmpeadeaa.na Go.Proofs.Ythpfgdhmpeadeaa.nb Go.Proofs.Ythpfgdhmpeadeaa.nc Go.Proofs.Ythpfgdhmpeadeaa.nh Go.Proofs.Ythpfgdhmpeadeaa.nj Go.Proofs.Ythpfgdhmpeadeaa.mi Go.Proofs.Ythpfgdhmpeadeaa.co Go.Proofs.Ythpfgdhmpeadeaa.cn Go.Proofs.Ythpfgdhmpeadeaa.df Go.Proofs.Ythpfgdhmpeadeaa.ea Go.Proofs.Ythpfgdhmpeadeaa.eb Go.Proofs.Ythpfgdhmpeadeaa.ec Go.Proofs.Ythpfgdhmpeadeaa.ed Go.Proofs.Ythpfgdhmpeadeaa.ee Go.Proofs.Ythpfgdhmpeadeaa.ef Go.Proofs.Ythpfgdhmpeadeaa.eg Go.Proofs.Ythpfgdhmpeadeaa.eh Go.Proofs.Ythpfgdhmpeadeaa.ej Go.Proofs.Ythpfgdhmpeadeaa.eo Go.Proofs.Ythpfgdhmpeadeaa.ep Go.Proofs.Ythpfgdhmpeadeaa.eq Go.Proofs.Ythpfgdhmpeadeaa.er Go.Proofs.Ythpfgdhmpeadeaa.es Go.Proofs.Ythpfgdhmpeadeaa.ka Go.Proofs.Ythpfgdhmpeadeaa.bn Go.Proofs.Ythpfgdhmpeadeaa.fa Go.Proofs.Ythpfgdhmpeadeaa.fe Go.Proofs.Ythpfgdhmpeadeaa.ff Go.Proofs.Ythpfgdhmpeadeaa.e1 Go.Proofs.Ythpfgdhmpeadeaa.e2 Go.Proofs.Ythpfgdhmpeadeaa.e5 Go.Proofs.Ythpfgdhmpeadeaa.e6
set_option linter.unusedVariables false
set_option maxHeartbeats 1600000 in
theorem rBare (k wd a b n : Int) (va ha : Option Addr) (L vc hl hc : Nat) (w : World) (k1 : 1 ≤ k) (k2 : k ≤ 4) :
    Calls Try.prog 30 #[.agg #[.int .i64 k, .int .i64 wd, .int .i64 a, .int .i64 b, .int .i64 n, .slice va L vc, .slice ha hl hc]] w fun e w' => e = .returned (.bool (!unnB k a b L)) ∧ Below w.heap.size w w' := by
  obtain ⟨W, HW⟩ : ∃ W, W = w.alloc (.cells #[.int .i64 k, .int .i64 wd, .int .i64 a, .int .i64 b, .int .i64 n, .slice va L vc, .slice ha hl hc] 25) := ⟨_, rfl⟩
  have hW : W.heap[w.heap.size]? = some (.cells #[.int .i64 k, .int .i64 wd, .int .i64 a, .int .i64 b, .int .i64 n, .slice va L vc, .slice ha hl hc] 25 (0, 0)) := by rw [HW]; exact heap_alloc_new w _
  have HWW : Hid (W.heap[w.heap.size]? = some (.cells #[.int .i64 k, .int .i64 wd, .int .i64 a, .int .i64 b, .int .i64 n, .slice va L vc, .slice ha hl hc] 25 (0, 0))) := hW
  have HLT : Hid (w.heap.size < W.heap.size) := (Array.getElem?_eq_some_iff.1 hW).1
  have BW : Hid (Below w.heap.size w W) := by rw [HW]; exact (Below.refl _ _).alloc (Nat.le_refl _) _
  obtain ⟨d0, d1, d2, d3, d4, d5, d6⟩ := seven hW
  clear hW HWW HLT
  by_cases k4 : k = 4
  · subst k4
    by_cases a0 : a = 0
    · subst a0
      by_cases b0 : b = 0
      · subst b0
        have HU : Hid ((!unnB 4 0 0 L) = true) := by show _ = _; simp [unnB]
        rw [HU.out]
        clear HU
        go_enter Try.func30, Try.ntmps30
        go_upto_region 1 with fail
        rw [← HW]
        clear HW
        go_wp2
        go_ret
        exact ⟨rfl, BW.out⟩
      · have q2 : (b == 0) = false := by simp [b0]
        have q2' : (b != 0) = true := by simp [b0]
        clear b0
        have HU : Hid ((!unnB 4 0 b L) = false) := by show _ = _; simp [unnB, q2']
        rw [HU.out]
        clear HU
        go_enter Try.func30, Try.ntmps30
        go_upto_region 1 with fail
        rw [← HW]
        clear HW
        go_wp2
        go_ret
        exact ⟨rfl, BW.out⟩
    · have q1 : (a == 0) = false := by simp [a0]
      have q1' : (a != 0) = true := by simp [a0]
      clear a0
      have HU : Hid ((!unnB 4 a b L) = false) := by show _ = _; simp [unnB, q1']
      rw [HU.out]
      clear HU
      go_enter Try.func30, Try.ntmps30
      go_upto_region 1 with fail
      rw [← HW]
      clear HW
      go_wp2
      go_ret
      exact ⟨rfl, BW.out⟩
  · by_cases k3 : k = 3
    · subst k3
      by_cases l0 : L = 0
      · subst l0
        have HU : Hid ((!unnB 3 a b 0) = true) := by show _ = _; simp [unnB]
        rw [HU.out]
        clear HU
        go_enter Try.func30, Try.ntmps30
        go_upto_region 1 with fail
        rw [← HW]
        clear HW
        go_wp2
        go_ret
        exact ⟨rfl, BW.out⟩
      · have q3 : ((L : Int) == 0) = false := by simp [l0]
        have HU : Hid ((!unnB 3 a b L) = false) := by show _ = _; simp [unnB, l0]
        rw [HU.out]
        clear HU
        go_enter Try.func30, Try.ntmps30
        go_upto_region 1 with fail
        rw [← HW]
        clear HW
        go_wp2
        go_ret
        exact ⟨rfl, BW.out⟩
    · have hk : k = 1 ∨ k = 2 := by omega
      clear k1 k2 k3 k4
      rcases hk with rfl | rfl
      · by_cases b0 : b = 0
        · subst b0
          by_cases l0 : L = 0
          · subst l0
            have HU : Hid ((!unnB 1 a 0 0) = true) := by show _ = _; simp [unnB]
            rw [HU.out]
            clear HU
            go_enter Try.func30, Try.ntmps30
            go_upto_region 1 with fail
            rw [← HW]
            clear HW
            go_wp2
            go_ret
            exact ⟨rfl, BW.out⟩
          · have q5 : ((L : Int) == 0) = false := by simp [l0]
            have HU : Hid ((!unnB 1 a 0 L) = false) := by show _ = _; simp [unnB, l0]
            rw [HU.out]
            clear HU
            go_enter Try.func30, Try.ntmps30
            go_upto_region 1 with fail
            rw [← HW]
            clear HW
            go_wp2
            go_ret
            exact ⟨rfl, BW.out⟩
        · have q2 : (b == 0) = false := by simp [b0]
          have q2' : (b != 0) = true := by simp [b0]
          clear b0
          have HU : Hid ((!unnB 1 a b L) = false) := by show _ = _; simp [unnB, q2']
          rw [HU.out]
          clear HU
          go_enter Try.func30, Try.ntmps30
          go_upto_region 1 with fail
          rw [← HW]
          clear HW
          go_wp2
          go_ret
          exact ⟨rfl, BW.out⟩
      · by_cases b0 : b = 0
        · subst b0
          by_cases l0 : L = 0
          · subst l0
            have HU : Hid ((!unnB 2 a 0 0) = true) := by show _ = _; simp [unnB]
            rw [HU.out]
            clear HU
            go_enter Try.func30, Try.ntmps30
            go_upto_region 1 with fail
            rw [← HW]
            clear HW
            go_wp2
            go_ret
            exact ⟨rfl, BW.out⟩
          · have q5 : ((L : Int) == 0) = false := by simp [l0]
            have HU : Hid ((!unnB 2 a 0 L) = false) := by show _ = _; simp [unnB, l0]
            rw [HU.out]
            clear HU
            go_enter Try.func30, Try.ntmps30
            go_upto_region 1 with fail
            rw [← HW]
            clear HW
            go_wp2
            go_ret
            exact ⟨rfl, BW.out⟩
        · have q2 : (b == 0) = false := by simp [b0]
          have q2' : (b != 0) = true := by simp [b0]
          clear b0
          have HU : Hid ((!unnB 2 a b L) = false) := by show _ = _; simp [unnB, q2']
          rw [HU.out]
          clear HU
          go_enter Try.func30, Try.ntmps30
          go_upto_region 1 with fail
          rw [← HW]
          clear HW
          go_wp2
          go_ret
          exact ⟨rfl, BW.out⟩

theorem numsB_two (x y : Int) : (⟨(numsB [x, y]).toArray⟩ : ByteArray) = putB x ++ putB y := by
  apply bl_inj
  rw [bl_of, numsB_cons, numsB_one', bl_app]
theorem numsB_three (x y z : Int) : (⟨(numsB [x, y, z]).toArray⟩ : ByteArray) = putB x ++ putB y ++ putB z := by
  apply bl_inj
  rw [bl_of, numsB_cons, numsB_cons, numsB_one', bl_app, bl_app, List.append_assoc]
theorem st_zero (xs : List Int) (h : 0 < xs.length) : numsB (stL 0 (xs.take 1)) = bl (putB (xs.getD 0 0)) := by
  match xs, h with
  | x :: xs, _ => show numsB [x - 0] = _; rw [numsB_one', Int.sub_zero]; rfl
theorem rz_nx (xs : List Int) : ∀ (x : Int), Rz x xs → ∀ k, k < xs.length → nx x (xs.take k) ≤ xs.getD k 0 := by
  induction xs with
  | nil => intro x _ k hk; exact absurd hk (by simp)
  | cons y ys ih =>
    intro x hr k hk
    obtain ⟨r1, r2, r3⟩ := hr
    cases k with
    | zero => exact r1
    | succ k => exact ih (y + 1) r3 k (by simpa using hk)
theorem OBdN {w : World} {B : Nat} {v : Value} {l : List UInt8} (h : OB w B v l) (m : Nat) : OB (w.drewN m) B v l := own_kp h (A := fun _ => False) (Kp.dN _ _) (fun _ e => e.elim)
theorem nx_at (xs : List Int) (k : Nat) (h : k < xs.length) : nx 0 (xs.take (k + 1)) = xs.getD k 0 + 1 := by rw [take_snoc xs k h, nx_snoc]
set_option maxRecDepth 100000 in
set_option maxHeartbeats 3200000 in
theorem rNumbers (k wd a b n : Int) (va ha : Option Addr) (L vc hl hc : Nat) (xs : List Int) (w : World) (hR : ReadsI w (.slice va L vc) xs) (hr : ref9 k a b n xs = 0) :
    Calls Try.prog 33 #[.agg #[.int .i64 k, .int .i64 wd, .int .i64 a, .int .i64 b, .int .i64 n, .slice va L vc, .slice ha hl hc]] w fun e w' => e = .returned (.string ⟨(numsB (namedL k a b n xs)).toArray⟩) ∧ Below w.heap.size w w' := by
  obtain ⟨W, HW⟩ : ∃ W, W = w.alloc (.cells #[.int .i64 k, .int .i64 wd, .int .i64 a, .int .i64 b, .int .i64 n, .slice va L vc, .slice ha hl hc] 25) := ⟨_, rfl⟩
  have hW : W.heap[w.heap.size]? = some (.cells #[.int .i64 k, .int .i64 wd, .int .i64 a, .int .i64 b, .int .i64 n, .slice va L vc, .slice ha hl hc] 25 (0, 0)) := by rw [HW]; exact heap_alloc_new w _
  have HWW : Hid (W.heap[w.heap.size]? = some (.cells #[.int .i64 k, .int .i64 wd, .int .i64 a, .int .i64 b, .int .i64 n, .slice va L vc, .slice ha hl hc] 25 (0, 0))) := hW
  have HLT : Hid (w.heap.size < W.heap.size) := (Array.getElem?_eq_some_iff.1 hW).1
  have BW : Hid (Below w.heap.size w W) := by rw [HW]; exact (Below.refl _ _).alloc (Nat.le_refl _) _
  obtain ⟨d0, d1, d2, d3, d4, d5, d6⟩ := seven hW
  obtain ⟨k1, k2, hn, ha0, hb0, hx⟩ := ref_bounds hr
  obtain ⟨_, _, hxx⟩ := named_in hr
  have hMX : MX = 4611686018427387904 := rfl
  have PB : Hid (∀ w', Below W.heap.size W w' → w'.cell? ⟨w.heap.size, 0, none⟩ = some (.int .i64 k) ∧ w'.cell? ⟨w.heap.size, 1, none⟩ = some (.int .i64 wd) ∧ w'.cell? ⟨w.heap.size, 2, none⟩ = some (.int .i64 a) ∧ w'.cell? ⟨w.heap.size, 3, none⟩ = some (.int .i64 b) ∧ w'.cell? ⟨w.heap.size, 4, none⟩ = some (.int .i64 n) ∧ w'.cell? ⟨w.heap.size, 5, none⟩ = some (.slice va L vc) ∧ w'.cell? ⟨w.heap.size, 6, none⟩ = some (.slice ha hl hc)) := fun w' h => seven ((h.block _ HLT.out).trans HWW.out)
  have BD : Hid (Below W.heap.size W W.drew) := below_dr (Below.refl _ _)
  have CN : Hid (∀ W, Calls _ _ _ (W : World) _) := fun W => rNumberC n W (by omega) (by omega)
  have pn := (putB_size n (by omega) (by omega)).2
  by_cases k4 : k = 4
  · subst k4
    have HNM : Hid (namedL 4 a b n xs = ((xs.length : Int) :: stL 0 xs) ++ [n]) := if_pos rfl
    rw [HNM.out]
    clear HNM ha0 hb0
    obtain ⟨hxb, hxl⟩ := hxx rfl
    have hL : L = xs.length := by obtain ⟨_, _, e, _⟩ := hR; exact (Value.slice.inj e).2.1
    have CL : Hid (∀ W, Calls _ _ _ (W : World) _) := fun W => rNumberC (L : Int) W (by omega) (by omega)
    have pl := (putB_size (L : Int) (by omega) (by omega)).2
    have HE : Hid (∀ (W' : World), Below W.heap.size W W' → ∀ k, k < L → ∃ bb off, va = some ⟨bb, off, none⟩ ∧ W'.cell? ⟨bb, off + k, none⟩ = some (.int .i64 (xs.getD k 0))) := fun W' hW k hk => by
      obtain ⟨a', cap', e, _, h⟩ := hR.later BW.out
      have e1 := (Value.slice.inj e).1
      rcases h with h | ⟨bb, off, ha, hc⟩
      · omega
      · have c := hc k (by omega)
        exact ⟨bb, off, by rw [e1, ha], (hW.cell (p := ⟨bb, off + k, none⟩) (World.block_lt_of_cell? _ _ c)).trans c⟩
    have hcap : L ≤ vc := by obtain ⟨_, _, e, h, _⟩ := hR; have e1 := (Value.slice.inj e); omega
    have HB : Hid (∀ k, k < L → 0 ≤ xs.getD k 0 ∧ xs.getD k 0 ≤ 4611686018427387904) := fun k hk => hxb k (by omega)
    have HRZ : Hid (Rz 0 xs) := (hx rfl).2
    have HST : Hid (∀ k, k < L → 0 ≤ xs.getD k 0 - nx 0 (xs.take k) ∧ xs.getD k 0 - nx 0 (xs.take k) ≤ 4611686018427387904) := fun k hk => by
      have h1 := rz_nx xs 0 HRZ.out k (by omega)
      have h2 := hxb k (by omega)
      have h3 := nx_in xs hxb k (by omega)
      omega
    have HSN : Hid (∀ k, k < L → numsB (stL 0 (xs.take (k + 1))) = numsB (stL 0 (xs.take k)) ++ bl (putB (xs.getD k 0 - nx 0 (xs.take k)))) := fun k hk => by
      show _ = _
      rw [take_snoc xs k (by omega), stL_snoc, numsB_app, numsB_one']
    have HNX : Hid (∀ k, k + 1 < L → nx 0 (xs.take (k + 1)) = xs.getD k 0 + 1) := fun k hk => nx_at xs k (by omega)
    have HZ : Hid (nx 0 (xs.take 0) = 0) := rfl
    have HLN : Hid (∀ k, k ≤ L → (numsB (stL 0 (xs.take k))).length ≤ 10 * k) := fun k hk => by
      induction k with
      | zero => simp [stL, numsB]
      | succ k ih =>
        rw [HSN.out k (by omega), List.length_append, bl_len]
        have h1 := HST.out k (by omega)
        have := (putB_size (xs.getD k 0 - nx 0 (xs.take k)) h1.1 (by omega)).2
        have := ih (by omega)
        omega
    have HFIN : Hid (numsB (((xs.length : Int) :: stL 0 xs) ++ [n]) = bl (putB (L : Int)) ++ numsB (stL 0 (xs.take L)) ++ bl (putB n)) := by
      show _ = _
      rw [numsB_app, numsB_cons, numsB_one', hL, List.take_length]
    rw [HFIN.out]
    have hLl : L ≤ 1024 := by omega
    clear hR hr hx hxx hxb HRZ HFIN hL hn hW
    obtain ⟨Y, HY⟩ : ∃ Y, Hid (putB (L : Int) = Y) := ⟨_, rfl⟩
    obtain ⟨Z, HZN⟩ : ∃ Y, Hid (putB n = Y) := ⟨_, rfl⟩
    rw [HY.out] at CL pl ⊢
    rw [HZN.out] at CN pn ⊢
    have OX : Hid (∀ w1 : World, OB w1 W.heap.size (.slice none 0 0) []) := fun w1 => World.ownsRow_nil _ _ _ _
    have hY0 := bl_len Y
    have hZ0 := bl_len Z
    go_enter Try.func33, Try.ntmps33
    go_upto_region 1 with fail
    rw [← HW]
    clear HW
    go_wp2_with (first
      | (go_at_call 32; refine (CL.out _).mono ?_; rintro _ w1 ⟨rfl, k1⟩; have B1 : Hid (Below W.heap.size W w1) := k1; clear k1)
      | (at_builtin; refine wpList_append_str rfl _ _ rfl W.heap.size (.slice none 0 0) 0 [] rfl (OX.out w1) Y rfl (by omega) B1.out.size ?_; intro v2 w2 ho2 hg2; have O2 : Hid (OB w2 W.heap.size v2 (bl Y)) := (by have h := OB.str (l := []) (q := Y) ho2; exact h); have B2 : Hid (Below W.heap.size W w2) := B1.out.trans (Below.grown (Below.refl _ _) hg2 B1.out.size (fun j hj => by cases hj)); clear ho2 hg2))
    go_loopw [3, 4] (fun v i wr => ∃ (k : Nat), k ≤ L ∧ i = .int .i64 k ∧ Hid (OB wr W.heap.size v (bl Y ++ numsB (stL 0 (xs.take k))) ∧ Below W.heap.size W wr)) (fun _ i _ => (L - intOf i).toNat)
    case atStart => exact ⟨0, by omega, rfl, by rw [show numsB (stL 0 (xs.take 0)) = [] from rfl, List.append_nil]; exact O2.out, B2.out⟩
    case round =>
      clear O2 B2 B1 CL d0 d1 d2 d3 d4 d5 d6
      obtain ⟨i, hi, rfl, HH⟩ := hrel
      obtain ⟨e0, e1, e2, e3, e4, e5, e6⟩ := PB.out wr HH.out.2
      obtain ⟨oa, oc, hv⟩ := own_formS HH.out.1
      subst hv
      by_cases hlt : i < L
      · have hlt' : (i : Int) < L := by omega
        obtain ⟨bb, off, hva, hc⟩ := HE.out wr HH.out.2 i hlt
        subst hva
        have hs := HST.out i hlt
        have hb := HB.out i hlt
        have hln := HLN.out i hi
        have CI : Hid (∀ W, Calls _ _ _ (W : World) _) := fun W => rNumberC (xs.getD i 0 - nx 0 (xs.take i)) W (by omega) (by omega)
        have hps := (putB_size (xs.getD i 0 - nx 0 (xs.take i)) (by omega) (by omega)).2
        have HJ : Hid (_ = _) := HSN.out i hlt
        obtain ⟨T, HT⟩ : ∃ Y, Hid (putB (xs.getD i 0 - nx 0 (xs.take i)) = Y) := ⟨_, rfl⟩
        rw [HT.out] at CI hps HJ
        have HO : Hid (OB wr W.heap.size (.slice oa (bl Y ++ numsB (stL 0 (xs.take i))).length oc) (bl Y ++ numsB (stL 0 (xs.take i)))) := HH.out.1
        have HBB : Hid (Below W.heap.size W wr) := HH.out.2
        clear HH
        obtain ⟨M, HM⟩ : ∃ M, Hid (bl Y ++ numsB (stL 0 (xs.take i)) = M) := ⟨_, rfl⟩
        have hml : M.length ≤ 10 + 10 * i := by rw [← HM.out, List.length_append]; omega
        rw [HM.out] at HO ⊢
        have hTl := bl_len T
        by_cases h0 : i = 0
        · have q0 : decide ((0 : Int) < (i : Int)) = false := by simp [h0]
          have q0n : decide (0 < i) = false := by simp [h0]
          have q1 : ¬ (0 : Int) < i := by omega
          have q1n : ¬ 0 < i := by omega
          have HD : Hid (xs.getD i 0 - nx 0 (xs.take i) = xs.getD i 0) := by show _ = _; rw [h0, HZ.out]; omega
          rw [HD.out] at CI
          clear HD h0
          obtain ⟨y, HYY⟩ : ∃ y, Hid (xs.getD i 0 = y) := ⟨_, rfl⟩
          rw [HYY.out] at hc CI hb
          go_wp2_with (first
            | (go_at_call 32; refine (CI.out _).mono ?_; rintro _ w1 ⟨rfl, k1⟩; have O1 : Hid (OB w1 W.heap.size (.slice oa M.length oc) M) := HO.out.later k1; have B1 : Hid (Below W.heap.size W w1) := below2 HBB.out k1 (Nat.le_refl _); clear k1)
            | (at_builtin; refine wpList_append_str rfl _ _ rfl W.heap.size (.slice oa M.length oc) M.length (Lib.byteCells M) rfl O1.out T rfl (by omega) B1.out.size ?_; intro v3 w3 ho3 hg3; have O3 : Hid (OB w3 W.heap.size v3 (M ++ T.data.toList)) := OB.str ho3; have B3 : Hid (Below W.heap.size W w3) := B1.out.trans (Below.grown (Below.refl _ _) hg3 B1.out.size (fun j hj => (O1.out.lt _ hj).1)); clear ho3 hg3))
          go_roundw
          case rel => exact ⟨i + 1, by omega, by go_num, by rw [HJ.out, ← List.append_assoc, HM.out]; exact O3.out, B3.out⟩
          case measure => simp [intOf]; omega
        · have q0 : (0 : Int) < i := by omega
          obtain ⟨i', rfl⟩ : ∃ i', i = i' + 1 := ⟨i - 1, by omega⟩
          obtain ⟨bb2, off2, hva2, hc2⟩ := HE.out wr HBB.out i' (by omega)
          have hva3 := Option.some.inj hva2
          have hob : off2 = off := (congrArg Addr.off hva3).symm
          have hbb : bb2 = bb := (congrArg Addr.block hva3).symm
          subst hob hbb
          clear hva2 hva3
          have hb2 := HB.out i' (by omega)
          have HD : Hid (xs.getD (i' + 1) 0 - nx 0 (xs.take (i' + 1)) = xs.getD (i' + 1) 0 - xs.getD i' 0 - 1) := by show _ = _; rw [HNX.out i' (by omega)]; omega
          rw [HD.out] at CI hs
          clear HD h0
          have gi1 : IntKind.i64.wrap (((i' + 1 : Nat) : Int) - 1) = (i' : Int) := by rw [IntKind.wrap_i64]; omega
          have gi2 : (((i' + 1 : Nat) : Int) - 1).toNat = i' := by omega
          have gi3 : (0 : Int) ≤ ((i' + 1 : Nat) : Int) - 1 := by omega
          have gi4 : ((i' + 1 : Nat) : Int) - 1 < L := by omega
          have gi5 : ((i' : Nat) : Int) < L := by omega
          obtain ⟨y, HYY⟩ : ∃ y, Hid (xs.getD (i' + 1) 0 = y) := ⟨_, rfl⟩
          obtain ⟨y2, HYY2⟩ : ∃ y, Hid (xs.getD i' 0 = y) := ⟨_, rfl⟩
          rw [HYY.out] at hc CI hb hs
          rw [HYY2.out] at hc2 CI hb2 hs
          have gw1 : IntKind.i64.wrap (y - y2) = y - y2 := by rw [IntKind.wrap_i64]; omega
          have gw2 : IntKind.i64.wrap (y - y2 - 1) = y - y2 - 1 := by rw [IntKind.wrap_i64]; omega
          go_upto_region 14 with fail
          go_quiet (fail)
          have O0d : Hid (OB _ W.heap.size (.slice oa M.length oc) M) := HO.out
          go_wp2_with (first
            | (go_at_call 32; refine (CI.out _).mono ?_; rintro _ w1 ⟨rfl, k1⟩; have O1 : Hid (OB w1 W.heap.size (.slice oa M.length oc) M) := OB.later (OBdN HO.out _) k1; have B1 : Hid (Below W.heap.size W w1) := below2 (below_dN HBB.out _) k1 (Nat.le_refl _); clear k1)
            | (at_builtin; refine wpList_append_str rfl _ _ rfl W.heap.size (.slice oa M.length oc) M.length (Lib.byteCells M) rfl O1.out T rfl (by omega) B1.out.size ?_; intro v3 w3 ho3 hg3; have O3 : Hid (OB w3 W.heap.size v3 (M ++ T.data.toList)) := OB.str ho3; have B3 : Hid (Below W.heap.size W w3) := B1.out.trans (Below.grown (Below.refl _ _) hg3 B1.out.size (fun j hj => (O1.out.lt _ hj).1)); clear ho3 hg3))
          go_roundw
          case rel => exact ⟨i' + 1 + 1, by omega, by go_num, by rw [HJ.out, ← List.append_assoc, HM.out]; exact O3.out, B3.out⟩
          case measure => simp [intOf]; omega
      · have hlt' : ¬ (i : Int) < L := by omega
        obtain rfl : i = L := by omega
        have HO : Hid (OB wr W.heap.size (.slice oa (bl Y ++ numsB (stL 0 (xs.take i))).length oc) (bl Y ++ numsB (stL 0 (xs.take i)))) := HH.out.1
        have HBB : Hid (Below W.heap.size W wr) := HH.out.2
        have hln := HLN.out i hi
        clear HH
        obtain ⟨M, HM⟩ : ∃ M, Hid (bl Y ++ numsB (stL 0 (xs.take i)) = M) := ⟨_, rfl⟩
        have hml : M.length ≤ 10 + 10 * i := by rw [← HM.out, List.length_append]; omega
        rw [HM.out] at HO ⊢
        go_upto_region 17 with (first
          | (go_at_call 32; refine (CN.out _).mono ?_; rintro _ w1 ⟨rfl, k1⟩; have O1 : Hid (OB w1 W.heap.size (.slice oa M.length oc) M) := HO.out.later k1; have B1 : Hid (Below W.heap.size W w1) := below2 HBB.out k1 (Nat.le_refl _); clear k1)
          | (at_builtin; refine wpList_append_str rfl _ _ rfl W.heap.size (.slice oa M.length oc) M.length (Lib.byteCells M) rfl O1.out Z rfl (by omega) B1.out.size ?_; intro v3 w3 ho3 hg3; have O3 : Hid (OB w3 W.heap.size v3 (M ++ bl Z)) := OB.str ho3; have B3 : Hid (Below W.heap.size W w3) := B1.out.trans (Below.grown (Below.refl _ _) hg3 B1.out.size (fun j hj => (O1.out.lt _ hj).1)); clear ho3 hg3))
        have hcv := conv_any w3 W.heap.size _ (M ++ bl Z) O3.out
        go_wp2
        go_ret
        exact ⟨by rw [HM.out]; rfl, below2 BW.out B3.out (Nat.le_refl _)⟩
  · have hA := ha0 k4
    have CA : Hid (∀ W, Calls _ _ _ (W : World) _) := fun W => rNumberC a W (by omega) (by omega)
    have pa := (putB_size a (by omega) (by omega)).2
    by_cases k3 : k = 3
    · subst k3
      have hb := hb0 rfl
      have CB : Hid (∀ W, Calls _ _ _ (W : World) _) := fun W => rNumberC b W (by omega) (by omega)
      have pb := (putB_size b (by omega) (by omega)).2
      have HNM : Hid (namedL 3 a b n xs = [a, b, n]) := rfl
      rw [HNM.out, numsB_three]
      clear HNM hR hr hx hxx ha0 hb0 hW
      obtain ⟨X, HX⟩ : ∃ Y, Hid (putB a = Y) := ⟨_, rfl⟩
      obtain ⟨Y, HY⟩ : ∃ Y, Hid (putB b = Y) := ⟨_, rfl⟩
      obtain ⟨Z, HZ⟩ : ∃ Y, Hid (putB n = Y) := ⟨_, rfl⟩
      rw [HX.out] at CA pa ⊢
      rw [HY.out] at CB pb ⊢
      rw [HZ.out] at CN pn ⊢
      have a1 := add_text X Y (by omega)
      have z1 : (X ++ Y).size ≤ 20 := by rw [ByteArray.size_append]; omega
      have a2 := add_text (X ++ Y) Z (by omega)
      go_enter Try.func33, Try.ntmps33
      go_upto_region 1 with fail
      rw [← HW]
      clear HW
      go_upto_region 6 with fail
      clear d0 d1 d2 d3 d4 d5 d6
      go_region_held3 (fun w' => Below W.heap.size W w' ∧ w'.cell? ⟨w.heap.size, 0, none⟩ = some (.int .i64 3) ∧ w'.cell? ⟨w.heap.size, 1, none⟩ = some (.int .i64 wd) ∧ w'.cell? ⟨w.heap.size, 2, none⟩ = some (.int .i64 a) ∧ w'.cell? ⟨w.heap.size, 3, none⟩ = some (.int .i64 b) ∧ w'.cell? ⟨w.heap.size, 4, none⟩ = some (.int .i64 n) ∧ w'.cell? ⟨w.heap.size, 5, none⟩ = some (.slice va L vc) ∧ w'.cell? ⟨w.heap.size, 6, none⟩ = some (.slice ha hl hc)) (first | exact ⟨BD.out, PB.out _ BD.out⟩ | exact ⟨B1.out, PB.out _ B1.out⟩ | exact ⟨B2.out, PB.out _ B2.out⟩ | exact ⟨B3.out, PB.out _ B3.out⟩) (first
        | (go_at_call 32; refine (CN.out _).mono ?_; have b2 := B2.out; rintro _ w3 ⟨rfl, k3⟩; have B3 : Hid (Below W.heap.size W w3) := below2 B2.out k3 (Nat.le_refl _); clear k3 b2)
        | (go_at_call 32; refine (CB.out _).mono ?_; have b2 := B1.out; rintro _ w2 ⟨rfl, k2⟩; have B2 : Hid (Below W.heap.size W w2) := below2 B1.out k2 (Nat.le_refl _); clear k2 b2)
        | (go_at_call 32; refine (CA.out _).mono ?_; rintro _ w1 ⟨rfl, k1⟩; have B1 : Hid (Below W.heap.size W w1) := below2 BD.out k1 (Nat.le_refl _); clear k1))
      all_goals (
        go_wp2
        go_ret
        exact ⟨rfl, below2 BW.out B3.out (Nat.le_refl _)⟩)
    · have hk : k = 1 ∨ k = 2 := by omega
      have HNM : Hid (namedL k a b n xs = [a, n]) := by show _ = _; unfold namedL; rw [if_neg k4, if_neg k3]
      rw [HNM.out, numsB_two]
      clear HNM hR hr hx hxx ha0 hb0 hW k1 k2 k3 k4
      obtain ⟨X, HX⟩ : ∃ Y, Hid (putB a = Y) := ⟨_, rfl⟩
      obtain ⟨Z, HZ⟩ : ∃ Y, Hid (putB n = Y) := ⟨_, rfl⟩
      rw [HX.out] at CA pa ⊢
      rw [HZ.out] at CN pn ⊢
      have a1 := add_text X Z (by omega)
      rcases hk with rfl | rfl
      · go_enter Try.func33, Try.ntmps33
        go_upto_region 1 with fail
        rw [← HW]
        clear HW
        go_upto_region 4 with fail
        clear d0 d1 d2 d3 d4 d5 d6
        go_region_held3 (fun w' => Below W.heap.size W w' ∧ w'.cell? ⟨w.heap.size, 0, none⟩ = some (.int .i64 1) ∧ w'.cell? ⟨w.heap.size, 1, none⟩ = some (.int .i64 wd) ∧ w'.cell? ⟨w.heap.size, 2, none⟩ = some (.int .i64 a) ∧ w'.cell? ⟨w.heap.size, 3, none⟩ = some (.int .i64 b) ∧ w'.cell? ⟨w.heap.size, 4, none⟩ = some (.int .i64 n) ∧ w'.cell? ⟨w.heap.size, 5, none⟩ = some (.slice va L vc) ∧ w'.cell? ⟨w.heap.size, 6, none⟩ = some (.slice ha hl hc)) (first | exact ⟨BD.out, PB.out _ BD.out⟩ | exact ⟨B1.out, PB.out _ B1.out⟩ | exact ⟨B2.out, PB.out _ B2.out⟩ | exact ⟨B3.out, PB.out _ B3.out⟩) (first
          | (go_at_call 32; refine (CN.out _).mono ?_; have b2 := B1.out; rintro _ w3 ⟨rfl, k3⟩; have B3 : Hid (Below W.heap.size W w3) := below2 B1.out k3 (Nat.le_refl _); clear k3 b2)
          | (go_at_call 32; refine (CA.out _).mono ?_; rintro _ w1 ⟨rfl, k1⟩; have B1 : Hid (Below W.heap.size W w1) := below2 BD.out k1 (Nat.le_refl _); clear k1))
        all_goals (
          go_wp2
          go_ret
          exact ⟨rfl, below2 BW.out B3.out (Nat.le_refl _)⟩)
      · go_enter Try.func33, Try.ntmps33
        go_upto_region 1 with fail
        rw [← HW]
        clear HW
        go_upto_region 4 with fail
        clear d0 d1 d2 d3 d4 d5 d6
        go_region_held3 (fun w' => Below W.heap.size W w' ∧ w'.cell? ⟨w.heap.size, 0, none⟩ = some (.int .i64 2) ∧ w'.cell? ⟨w.heap.size, 1, none⟩ = some (.int .i64 wd) ∧ w'.cell? ⟨w.heap.size, 2, none⟩ = some (.int .i64 a) ∧ w'.cell? ⟨w.heap.size, 3, none⟩ = some (.int .i64 b) ∧ w'.cell? ⟨w.heap.size, 4, none⟩ = some (.int .i64 n) ∧ w'.cell? ⟨w.heap.size, 5, none⟩ = some (.slice va L vc) ∧ w'.cell? ⟨w.heap.size, 6, none⟩ = some (.slice ha hl hc)) (first | exact ⟨BD.out, PB.out _ BD.out⟩ | exact ⟨B1.out, PB.out _ B1.out⟩ | exact ⟨B2.out, PB.out _ B2.out⟩ | exact ⟨B3.out, PB.out _ B3.out⟩) (first
          | (go_at_call 32; refine (CN.out _).mono ?_; have b2 := B1.out; rintro _ w3 ⟨rfl, k3⟩; have B3 : Hid (Below W.heap.size W w3) := below2 B1.out k3 (Nat.le_refl _); clear k3 b2)
          | (go_at_call 32; refine (CA.out _).mono ?_; rintro _ w1 ⟨rfl, k1⟩; have B1 : Hid (Below W.heap.size W w1) := below2 BD.out k1 (Nat.le_refl _); clear k1))
        all_goals (
          go_wp2
          go_ret
          exact ⟨rfl, below2 BW.out B3.out (Nat.le_refl _)⟩)
end Go.Proofs.Ythpfgdhmpeadeaa.f8

namespace Go.Proofs.Ythpfgdhmpeadeaa.f9
open Go.RowKit Go.PlainAid Go.Shelf
open Go.Proofs.Ythpfgdhmpeadeaa.ca Go.Proofs.Ythpfgdhmpeadeaa.cb Go.Proofs.Ythpfgdhmpeadeaa.cp Go.Proofs.Ythpfgdhmpeadeaa.ga Go.Proofs.Ythpfgdhmpeadeaa.kp Go.Proofs.Ythpfgdhmpeadeaa.na Go.Proofs.Ythpfgdhmpeadeaa.nb Go.Proofs.Ythpfgdhmpeadeaa.nc Go.Proofs.Ythpfgdhmpeadeaa.nh Go.Proofs.Ythpfgdhmpeadeaa.nj Go.Proofs.Ythpfgdhmpeadeaa.mi Go.Proofs.Ythpfgdhmpeadeaa.co Go.Proofs.Ythpfgdhmpeadeaa.cn Go.Proofs.Ythpfgdhmpeadeaa.df Go.Proofs.Ythpfgdhmpeadeaa.ea Go.Proofs.Ythpfgdhmpeadeaa.eb Go.Proofs.Ythpfgdhmpeadeaa.ec Go.Proofs.Ythpfgdhmpeadeaa.ed Go.Proofs.Ythpfgdhmpeadeaa.ee Go.Proofs.Ythpfgdhmpeadeaa.ef Go.Proofs.Ythpfgdhmpeadeaa.eg Go.Proofs.Ythpfgdhmpeadeaa.eh Go.Proofs.Ythpfgdhmpeadeaa.ej Go.Proofs.Ythpfgdhmpeadeaa.eo Go.Proofs.Ythpfgdhmpeadeaa.ep Go.Proofs.Ythpfgdhmpeadeaa.eq Go.Proofs.Ythpfgdhmpeadeaa.er Go.Proofs.Ythpfgdhmpeadeaa.es Go.Proofs.Ythpfgdhmpeadeaa.ka Go.Proofs.Ythpfgdhmpeadeaa.bn Go.Proofs.Ythpfgdhmpeadeaa.fa Go.Proofs.Ythpfgdhmpeadeaa.fe Go.Proofs.Ythpfgdhmpeadeaa.ff Go.Proofs.Ythpfgdhmpeadeaa.e1 Go.Proofs.Ythpfgdhmpeadeaa.e2 Go.Proofs.Ythpfgdhmpeadeaa.e5 Go.Proofs.Ythpfgdhmpeadeaa.e6 Go.Proofs.Ythpfgdhmpeadeaa.f8
set_option linter.unusedVariables false
set_option maxRecDepth 100000 in
set_option maxHeartbeats 12800000 in
theorem rProof (k wd a b n : Int) (va ha : Option Addr) (L vc hl hc : Nat) (xs : List Int) (hs : List ByteArray) (w : World) (hR : ReadsI w (.slice va L vc) xs) (hT : ReadsT w (.slice ha hl hc) hs) (hz : xs.length ≤ 140737488355328) (hz2 : hs.length ≤ 140737488355328) :
    Calls Try.prog 8 #[.agg #[.int .i64 k, .int .i64 wd, .int .i64 a, .int .i64 b, .int .i64 n, .slice va L vc, .slice ha hl hc]] w fun e w' => e = .returned (proofV k wd a b n xs hs) ∧ Below w.heap.size w w' := by
  obtain ⟨W, HW⟩ : ∃ W, W = w.alloc (.cells #[.int .i64 k, .int .i64 wd, .int .i64 a, .int .i64 b, .int .i64 n, .slice va L vc, .slice ha hl hc] 25) := ⟨_, rfl⟩
  have hW : W.heap[w.heap.size]? = some (.cells #[.int .i64 k, .int .i64 wd, .int .i64 a, .int .i64 b, .int .i64 n, .slice va L vc, .slice ha hl hc] 25 (0, 0)) := by rw [HW]; exact heap_alloc_new w _
  have HWW : Hid (W.heap[w.heap.size]? = some (.cells #[.int .i64 k, .int .i64 wd, .int .i64 a, .int .i64 b, .int .i64 n, .slice va L vc, .slice ha hl hc] 25 (0, 0))) := hW
  have HLT : Hid (w.heap.size < W.heap.size) := (Array.getElem?_eq_some_iff.1 hW).1
  have BW : Hid (Below w.heap.size w W) := by rw [HW]; exact (Below.refl _ _).alloc (Nat.le_refl _) _
  obtain ⟨d0, d1, d2, d3, d4, d5, d6⟩ := seven hW
  have HL : L = xs.length := by obtain ⟨_, _, e, _⟩ := hR; exact (Value.slice.inj e).2.1
  have HM : hl = hs.length := by obtain ⟨_, _, e, _⟩ := hT; exact (Value.slice.inj e).2.1
  have PB : Hid (∀ w', Below W.heap.size W w' → w'.cell? ⟨w.heap.size, 0, none⟩ = some (.int .i64 k) ∧ w'.cell? ⟨w.heap.size, 1, none⟩ = some (.int .i64 wd) ∧ w'.cell? ⟨w.heap.size, 2, none⟩ = some (.int .i64 a) ∧ w'.cell? ⟨w.heap.size, 3, none⟩ = some (.int .i64 b) ∧ w'.cell? ⟨w.heap.size, 4, none⟩ = some (.int .i64 n) ∧ w'.cell? ⟨w.heap.size, 5, none⟩ = some (.slice va L vc) ∧ w'.cell? ⟨w.heap.size, 6, none⟩ = some (.slice ha hl hc)) := fun w' h => seven ((h.block _ HLT.out).trans HWW.out)
  have CC : Hid (Calls _ _ _ _ _) := rCount k a b n (.slice va L vc) xs W (hR.later BW.out) hz
  have HRT : Hid (ReadsT w (.slice ha hl hc) hs) := hT
  have HRI : Hid (ReadsI w (.slice va L vc) xs) := hR
  have HU : Hid (1 ≤ k → k ≤ 4 → ∀ W, Calls _ _ _ (W : World) _) := fun h1 h2 W => rBare k wd a b n va ha L vc hl hc W h1 h2
  have AH : Hid (∀ W, ReadsT W (.slice ha hl hc) hs → Calls _ _ _ (W : World) _) := fun W h => rSized wd _ hs W h hz2
  have HV : Hid (proofV k wd a b n xs hs = .tuple #[.string (if proofE k wd a b n xs hs = 0 then proofT k wd a b n xs hs else ByteArray.empty), .int .i64 (proofE k wd a b n xs hs)]) := rfl
  rw [HV.out]
  have HE : Hid (proofE k wd a b n xs hs = if 1 ≤ wd ∧ wd ≤ 32 then (if ref9 k a b n xs = 0 then (if unnB k a b L then 13 else if allW wd hs then (if hl = num9 k a b n xs then 0 else 71) else 72) else ref9 k a b n xs) else 10) := by show _ = _; rw [HL, HM]; rfl
  have HVL : Hid (proofE k wd a b n xs hs = 0 → Valid k wd a b n xs hs) := (valid_iff k wd a b n xs hs).1
  have HCN : Hid (cnt9 k a b n xs = if ref9 k a b n xs = 0 then (((num9 k a b n xs : Nat) : Int), 0) else (0, ref9 k a b n xs)) := rfl
  have HKK : Hid (ref9 k a b n xs = 0 → 1 ≤ k ∧ k ≤ 4) := fun h => ⟨(ref_bounds h).1, (ref_bounds h).2.1⟩
  rw [HCN.out] at CC
  clear hW hR hT HL HM HCN hz hz2 HV
  by_cases hw : 1 ≤ wd ∧ wd ≤ 32
  · rw [if_pos hw] at HE
    have g1 : ¬ wd < 1 := by omega
    have g2 : ¬ (32 : Int) < wd := by omega
    have g1' : decide (wd < 1) = false := by simp; omega
    have g2' : decide ((32 : Int) < wd) = false := by simp; omega
    by_cases hr : ref9 k a b n xs = 0
    · rw [if_pos hr] at CC HE
      replace HU := (show Hid (∀ W, _) from HU.out (HKK.out hr).1 (HKK.out hr).2)
      by_cases hu : unnB k a b L = true
      · rw [if_pos hu] at HE
        rw [HE.out, if_neg (by decide)]
        rw [hu] at HU
        clear hu hr hw HE HVL HKK
        go_enter Try.func8, Try.ntmps8
        go_upto_region 1 with fail
        rw [← HW]
        clear HW
        go_wp2_with (first
      | (go_at_call 29; refine CC.out.mono ?_; rintro _ w1 ⟨rfl, k1⟩; have B1 : Hid (Below W.heap.size W w1) := k1; obtain ⟨e0, e1, e2, e3, e4, e5, e6⟩ := PB.out w1 B1.out; clear k1)
      | (go_at_call 30; refine (HU.out _).mono ?_; rintro _ w2 ⟨rfl, k2⟩; have B2 : Hid (Below W.heap.size W w2) := below2 B1.out k2 (Nat.le_refl _); obtain ⟨f0, f1, f2, f3, f4, f5, f6⟩ := PB.out w2 B2.out; clear k2)
      | (go_at_call 31; refine (AH.out _ ((HRT.out.later BW.out).later B2.out)).mono ?_; rintro _ wz ⟨rfl, hz⟩; rw [hz]; clear hz))
        go_ret2
        exact ⟨rfl, below2 BW.out B2.out (Nat.le_refl _)⟩
      · have hu' : unnB k a b L = false := by simpa using hu
        rw [if_neg hu] at HE
        rw [hu'] at HU
        clear hu hu'
        by_cases hal : allW wd hs = true
        · rw [if_pos hal] at HE
          rw [hal] at AH
          by_cases hq : hl = num9 k a b n xs
          · rw [if_pos hq] at HE
            rw [HE.out, if_pos rfl]
            have q1 : ((hl : Int) != ((num9 k a b n xs : Nat) : Int)) = false := by rw [hq]; simp
            have V := HVL.out HE.out
            obtain ⟨k1, k2, hn, _, _, _⟩ := ref_bounds V.rf
            obtain ⟨n1, n2, n3⟩ := named_in V.rf
            have hln : hs.length ≤ 70000 := by rw [V.ln]; exact num_le V.rf
            have hcat := cat_le wd hs (all_sz.2 V.sz) V.w1 (by omega)
            have HT : Hid (proofT k wd a b n xs hs = ((((⟨#[80]⟩ : ByteArray) ++ str [wd]) ++ putB k) ++ ⟨(numsB (namedL k a b n xs)).toArray⟩) ++ ⟨(cat hs).toArray⟩) := rfl
            rw [HT.out]
            have RI : Hid (ReadsI W (.slice va L vc) xs) := HRI.out.later BW.out
            have RT : Hid (ReadsT W (.slice ha hl hc) hs) := HRT.out.later BW.out
            have N1 : Hid (∀ (W : World), Calls _ _ _ _ _) := fun W => rNumberC k W (by omega) (by omega)
            have NM : Hid (∀ W, ReadsI W (.slice va L vc) xs → Calls _ _ _ (W : World) _) := fun W h => rNumbers k wd a b n va ha L vc hl hc xs W h V.rf
            have SC : Hid (∀ W, ReadsT W (.slice ha hl hc) hs → Calls _ _ _ (W : World) _) := fun W h => rJoined _ hs W h (by omega) (by omega)
            have hps := (putB_size k (by omega) (by omega)).2
            have hns := nums_size _ n1 (by omega)
            have hst : (str [wd]).size = 1 := str_size [wd]
            have hsh : ((⟨#[80]⟩ : ByteArray) ++ str [wd]).size = 2 := by rw [ByteArray.size_append, str_size]; rfl
            have hca : (⟨(cat hs).toArray⟩ : ByteArray).size ≤ 32000000 := by show (cat hs).toArray.size ≤ _; rw [List.size_toArray]; omega
            have hz0 : (⟨#[80]⟩ : ByteArray).size = 1 := rfl
            have hu8 : IntKind.u8.wrap wd = wd := by rw [IntKind.wrap_u8]; omega
            obtain ⟨C, HC⟩ : ∃ C : ByteArray, Hid ((⟨(cat hs).toArray⟩ : ByteArray) = C) := ⟨_, rfl⟩
            obtain ⟨Y, HY⟩ : ∃ Y, Hid (putB k = Y) := ⟨_, rfl⟩
            obtain ⟨Z, HZ⟩ : ∃ C : ByteArray, Hid ((⟨(numsB (namedL k a b n xs)).toArray⟩ : ByteArray) = C) := ⟨_, rfl⟩
            obtain ⟨nu, HNU⟩ : ∃ r, Hid (num9 k a b n xs = r) := ⟨_, rfl⟩
            rw [HC.out] at SC hca ⊢
            rw [HY.out] at N1 hps ⊢
            rw [HZ.out] at NM hns ⊢
            rw [HNU.out] at CC q1
            have a0 := add_text (⟨#[80]⟩ : ByteArray) (str [wd]) (by omega)
            have a1 := add_text ((⟨#[80]⟩ : ByteArray) ++ str [wd]) Y (by omega)
            have z1 : ((⟨#[80]⟩ : ByteArray) ++ str [wd] ++ Y).size ≤ 12 := by rw [ByteArray.size_append]; omega
            have a2 := add_text ((⟨#[80]⟩ : ByteArray) ++ str [wd] ++ Y) Z (by omega)
            have z2 : ((⟨#[80]⟩ : ByteArray) ++ str [wd] ++ Y ++ Z).size ≤ 20012 := by rw [ByteArray.size_append]; omega
            have a3 := add_text ((⟨#[80]⟩ : ByteArray) ++ str [wd] ++ Y ++ Z) C (by omega)
            clear V n1 n2 n3 hn hw hcat hln HC HY HZ HNU HE HVL hr hal hq HT HKK
            go_enter Try.func8, Try.ntmps8
            go_upto_region 1 with fail
            rw [← HW]
            clear HW
            go_upto_region 12 with (first
      | (go_at_call 29; refine CC.out.mono ?_; rintro _ w1 ⟨rfl, k1⟩; have B1 : Hid (Below W.heap.size W w1) := k1; obtain ⟨e0, e1, e2, e3, e4, e5, e6⟩ := PB.out w1 B1.out; clear k1)
      | (go_at_call 30; refine (HU.out _).mono ?_; rintro _ w2 ⟨rfl, k2⟩; have B2 : Hid (Below W.heap.size W w2) := below2 B1.out k2 (Nat.le_refl _); obtain ⟨f0, f1, f2, f3, f4, f5, f6⟩ := PB.out w2 B2.out; clear k2)
      | (go_at_call 31; refine (AH.out _ ((HRT.out.later BW.out).later B2.out)).mono ?_; rintro _ wz ⟨rfl, hz⟩; rw [hz]; clear hz))
            clear d0 d1 d2 d3 d4 d5 d6 e0 e1 e2 e3 e4 e5 e6 f0 f1 f2 f3 f4 f5 f6
            have BD : Hid (Below W.heap.size W w2.drew) := below_dr B2.out
            have BA : Hid (Below W.heap.size W ((w2.alloc (.cells #[.int .u8 wd] 5)).drew)) := below_dr (B2.out.alloc B2.out.size _)
            have hcv0 : (convert 61 9 (.slice (some ⟨w2.heap.size, 0, none⟩) 1 1)).run Try.prog ((w2.alloc (.cells #[.int .u8 wd] 5)).drew) = .ok (.string (str [wd])) ((w2.alloc (.cells #[.int .u8 wd] 5)).drew) := conv_one w2.drew wd
            go_region_held_law (fun w' => Below W.heap.size W w' ∧ w'.cell? ⟨w.heap.size, 0, none⟩ = some (.int .i64 k) ∧ w'.cell? ⟨w.heap.size, 1, none⟩ = some (.int .i64 wd) ∧ w'.cell? ⟨w.heap.size, 2, none⟩ = some (.int .i64 a) ∧ w'.cell? ⟨w.heap.size, 3, none⟩ = some (.int .i64 b) ∧ w'.cell? ⟨w.heap.size, 4, none⟩ = some (.int .i64 n) ∧ w'.cell? ⟨w.heap.size, 5, none⟩ = some (.slice va L vc) ∧ w'.cell? ⟨w.heap.size, 6, none⟩ = some (.slice ha hl hc)) (first | exact ⟨BD.out, PB.out _ BD.out⟩ | exact ⟨BA.out, PB.out _ BA.out⟩ | exact ⟨B3.out, PB.out _ B3.out⟩ | exact ⟨B3.out.alloc B3.out.size _, PB.out _ (B3.out.alloc B3.out.size _)⟩ | exact ⟨B4.out, PB.out _ B4.out⟩ | exact ⟨B4.out.alloc B4.out.size _, PB.out _ (B4.out.alloc B4.out.size _)⟩ | exact ⟨B5.out, PB.out _ B5.out⟩ | exact ⟨B5.out.alloc B5.out.size _, PB.out _ (B5.out.alloc B5.out.size _)⟩) (first
              | (go_at_call 32; refine (N1.out _).mono ?_; rintro _ w3 ⟨rfl, k3⟩; first
                  | (have B3 : Hid (Below W.heap.size W w3) := below2 BD.out k3 (Nat.le_refl _); have hcv3 := conv_one w3 wd; clear k3)
                  | (have B3 : Hid (Below W.heap.size W w3) := below2 BA.out k3 (Nat.le_refl _); have c3 : Hid (w3.cell? ⟨w2.heap.size, 0, none⟩ = some (.int .u8 wd)) := cell_one w2.drew w3 wd k3; have hcv3 := conv_at w3 _ wd c3.out; clear k3))
              | (go_at_call 33; (first | refine (NM.out _ (RI.out.later B3.out)).mono ?_ | refine (NM.out _ (RI.out.later (B3.out.alloc B3.out.size _))).mono ?_); rintro _ w4 ⟨rfl, k4⟩; first
                  | (have B4 : Hid (Below W.heap.size W w4) := below2 B3.out k4 (Nat.le_refl _); first
                      | (have c4 : Hid (w4.cell? ⟨w2.heap.size, 0, none⟩ = some (.int .u8 wd)) := cell_kept _ w4 _ wd k4 c3.out; have hcv4 := conv_at w4 _ wd c4.out; clear k4)
                      | (have hcv4 := conv_one w4 wd; clear k4))
                  | (have B4 : Hid (Below W.heap.size W w4) := below2 (B3.out.alloc B3.out.size _) k4 (Nat.le_refl _); have c4 : Hid (w4.cell? ⟨w3.heap.size, 0, none⟩ = some (.int .u8 wd)) := cell_one w3 w4 wd k4; have hcv4 := conv_at w4 _ wd c4.out; clear k4))
              | (go_at_call 34; (first | refine (SC.out _ (RT.out.later B4.out)).mono ?_ | refine (SC.out _ (RT.out.later (B4.out.alloc B4.out.size _))).mono ?_); rintro _ w5 ⟨rfl, k5⟩; first
                  | (have B5 : Hid (Below W.heap.size W w5) := below2 B4.out k5 (Nat.le_refl _); first
                      | (have c5 := cell_kept _ w5 _ wd k5 c4.out; have hcv5 := conv_at w5 _ wd c5; clear k5 c5)
                      | (have hcv5 := conv_one w5 wd; clear k5))
                  | (have B5 : Hid (Below W.heap.size W w5) := below2 (B4.out.alloc B4.out.size _) k5 (Nat.le_refl _); have hcv5 := conv_at w5 _ wd (cell_one w4 w5 wd k5); clear k5)))
            all_goals (
              go_wp2
              go_ret2
              exact ⟨rfl, below2 BW.out (by first | exact B5.out | exact B5.out.alloc B5.out.size _) (Nat.le_refl _)⟩)
          · rw [if_neg hq] at HE
            rw [HE.out, if_neg (by decide)]
            have q1 : ((hl : Int) != ((num9 k a b n xs : Nat) : Int)) = true := by rw [bne_iff_ne]; omega
            obtain ⟨nu, HNU⟩ : ∃ r, Hid (num9 k a b n xs = r) := ⟨_, rfl⟩
            rw [HNU.out] at CC q1
            clear hq hr hw HE hal HNU HVL HKK
            go_enter Try.func8, Try.ntmps8
            go_upto_region 1 with fail
            rw [← HW]
            clear HW
            go_wp2_with (first
      | (go_at_call 29; refine CC.out.mono ?_; rintro _ w1 ⟨rfl, k1⟩; have B1 : Hid (Below W.heap.size W w1) := k1; obtain ⟨e0, e1, e2, e3, e4, e5, e6⟩ := PB.out w1 B1.out; clear k1)
      | (go_at_call 30; refine (HU.out _).mono ?_; rintro _ w2 ⟨rfl, k2⟩; have B2 : Hid (Below W.heap.size W w2) := below2 B1.out k2 (Nat.le_refl _); obtain ⟨f0, f1, f2, f3, f4, f5, f6⟩ := PB.out w2 B2.out; clear k2)
      | (go_at_call 31; refine (AH.out _ ((HRT.out.later BW.out).later B2.out)).mono ?_; rintro _ wz ⟨rfl, hz⟩; rw [hz]; clear hz))
            go_ret2
            exact ⟨rfl, below2 BW.out B2.out (Nat.le_refl _)⟩
        · have hal' : allW wd hs = false := by simpa using hal
          rw [if_neg hal] at HE
          rw [HE.out, if_neg (by decide)]
          rw [hal'] at AH
          clear hr hw HE hal hal' HVL HKK
          go_enter Try.func8, Try.ntmps8
          go_upto_region 1 with fail
          rw [← HW]
          clear HW
          go_wp2_with (first
      | (go_at_call 29; refine CC.out.mono ?_; rintro _ w1 ⟨rfl, k1⟩; have B1 : Hid (Below W.heap.size W w1) := k1; obtain ⟨e0, e1, e2, e3, e4, e5, e6⟩ := PB.out w1 B1.out; clear k1)
      | (go_at_call 30; refine (HU.out _).mono ?_; rintro _ w2 ⟨rfl, k2⟩; have B2 : Hid (Below W.heap.size W w2) := below2 B1.out k2 (Nat.le_refl _); obtain ⟨f0, f1, f2, f3, f4, f5, f6⟩ := PB.out w2 B2.out; clear k2)
      | (go_at_call 31; refine (AH.out _ ((HRT.out.later BW.out).later B2.out)).mono ?_; rintro _ wz ⟨rfl, hz⟩; rw [hz]; clear hz))
          go_ret2
          exact ⟨rfl, below2 BW.out B2.out (Nat.le_refl _)⟩
    · rw [if_neg hr] at CC HE
      rw [HE.out, if_neg hr]
      obtain ⟨rf, HRF⟩ : ∃ r, Hid (ref9 k a b n xs = r) := ⟨_, rfl⟩
      rw [HRF.out] at CC hr ⊢
      have q1 : (rf != 0) = true := by rw [bne_iff_ne]; exact hr
      clear hr hw HE HRF HVL HKK
      go_enter Try.func8, Try.ntmps8
      go_upto_region 1 with fail
      rw [← HW]
      clear HW
      go_wp2_with (first
      | (go_at_call 29; refine CC.out.mono ?_; rintro _ w1 ⟨rfl, k1⟩; have B1 : Hid (Below W.heap.size W w1) := k1; obtain ⟨e0, e1, e2, e3, e4, e5, e6⟩ := PB.out w1 B1.out; clear k1)
      | (go_at_call 30; refine (HU.out _).mono ?_; rintro _ w2 ⟨rfl, k2⟩; have B2 : Hid (Below W.heap.size W w2) := below2 B1.out k2 (Nat.le_refl _); obtain ⟨f0, f1, f2, f3, f4, f5, f6⟩ := PB.out w2 B2.out; clear k2)
      | (go_at_call 31; refine (AH.out _ ((HRT.out.later BW.out).later B2.out)).mono ?_; rintro _ wz ⟨rfl, hz⟩; rw [hz]; clear hz))
      go_ret2
      exact ⟨rfl, below2 BW.out B1.out (Nat.le_refl _)⟩
  · rw [if_neg hw] at HE
    rw [HE.out, if_neg (by decide)]
    clear HE HVL HKK
    by_cases h1 : wd < 1
    · have g1' : decide (wd < 1) = true := decide_eq_true h1
      clear hw
      go_enter Try.func8, Try.ntmps8
      go_upto_region 1 with fail
      rw [← HW]
      clear HW
      go_wp2_with (first
      | (go_at_call 29; refine CC.out.mono ?_; rintro _ w1 ⟨rfl, k1⟩; have B1 : Hid (Below W.heap.size W w1) := k1; obtain ⟨e0, e1, e2, e3, e4, e5, e6⟩ := PB.out w1 B1.out; clear k1)
      | (go_at_call 30; refine (HU.out _).mono ?_; rintro _ w2 ⟨rfl, k2⟩; have B2 : Hid (Below W.heap.size W w2) := below2 B1.out k2 (Nat.le_refl _); obtain ⟨f0, f1, f2, f3, f4, f5, f6⟩ := PB.out w2 B2.out; clear k2)
      | (go_at_call 31; refine (AH.out _ ((HRT.out.later BW.out).later B2.out)).mono ?_; rintro _ wz ⟨rfl, hz⟩; rw [hz]; clear hz))
      go_ret2
      exact ⟨rfl, BW.out⟩
    · have g1' : decide (wd < 1) = false := decide_eq_false h1
      have h2 : (32 : Int) < wd := by omega
      have g2' : decide ((32 : Int) < wd) = true := decide_eq_true h2
      clear hw
      go_enter Try.func8, Try.ntmps8
      go_upto_region 1 with fail
      rw [← HW]
      clear HW
      go_wp2_with (first
      | (go_at_call 29; refine CC.out.mono ?_; rintro _ w1 ⟨rfl, k1⟩; have B1 : Hid (Below W.heap.size W w1) := k1; obtain ⟨e0, e1, e2, e3, e4, e5, e6⟩ := PB.out w1 B1.out; clear k1)
      | (go_at_call 30; refine (HU.out _).mono ?_; rintro _ w2 ⟨rfl, k2⟩; have B2 : Hid (Below W.heap.size W w2) := below2 B1.out k2 (Nat.le_refl _); obtain ⟨f0, f1, f2, f3, f4, f5, f6⟩ := PB.out w2 B2.out; clear k2)
      | (go_at_call 31; refine (AH.out _ ((HRT.out.later BW.out).later B2.out)).mono ?_; rintro _ wz ⟨rfl, hz⟩; rw [hz]; clear hz))
      go_ret2
      exact ⟨rfl, BW.out⟩
end Go.Proofs.Ythpfgdhmpeadeaa.f9
