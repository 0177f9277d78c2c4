import Derived.Test.YthblljfkodbbeabDoorTh
namespace Go.Proofs.YthblljfkodbbeabDoor.ti
open Go.RowKit Go.PlainAid
open Go.Proofs.YthblljfkodbbeabDoor.ta Go.Proofs.YthblljfkodbbeabDoor.tb Go.Proofs.YthblljfkodbbeabDoor.tc Go.Proofs.YthblljfkodbbeabDoor.td Go.Proofs.YthblljfkodbbeabDoor.te Go.Proofs.YthblljfkodbbeabDoor.tf Go.Proofs.YthblljfkodbbeabDoor.tg Go.Proofs.YthblljfkodbbeabDoor.th
set_option linter.unusedVariables false

theorem wpList_box {P : Program} {ops : Array Oper} {rest : List Oper} {o : Oper} {a : Act} {w : World} {Q : Exit → Act → World → Prop} (hgd : o.guard = none) (t : TypeId) (x : Operand) (ho : o.op = .box t x) (cells : Array Value) (hx : (a.eval x).cells = cells)
    (h : wpList P ops Q rest (a.put o.dst (.pointer (some ⟨w.heap.size, 0, none⟩))) (w.alloc (.cells cells t))) : wpList P ops Q (o :: rest) a w := by
  subst hx
  refine wpList_plain hgd fun K hK => ?_
  unfold Oper.wp execOp
  simp only [ho, Sem.run_bind, Instr.box, newVar, newRow, run_newObj_alloc, Sem.run_pure, Result.andThen_ok]
  exact hK _ _ h

def rdF (bv bj : Nat) : Value := .func (.func 39) #[] #[.pointer (some ⟨bv, 0, none⟩), .pointer (some ⟨bj, 0, none⟩)]
def srW (w : World) (l : List Int) (f : Nat) (give : Value) : World := (chain5 (w.alloc (.cells (row l) 44)) f 8 give).alloc (bx 40 (rgF (w.heap.size + 1 + 3) (w.heap.size + 1) (w.heap.size + 1 + 4) (w.heap.size + 1 + 1) (w.heap.size + 1 + 2)))

set_option maxHeartbeats 800000 in
set_option maxRecDepth 100000 in
theorem signReader (l : List Int) (f : Nat) (g : Nat) (lb : Array Value) (w : World) :
    Calls Tryd.prog 34 #[.agg (row l), .int .i64 f, .func (.func g) #[] lb] w fun e w' => e = .returned (rdF w.heap.size (w.heap.size + 1 + 5)) ∧ w' = srW w l f (.func (.func g) #[] lb) := by
  have hmf : ∀ (fn : Fn) (first cap : Array Value) (w : World), (Instr.makeFunc fn first cap).run Tryd.prog w = .ok (.func fn first cap) w := fun _ _ _ _ => rfl
  have HR : Hid (Calls _ _ _ _ _) := regroup f 8 (.func (.func g) #[] lb) rfl g lb rfl (w.alloc (.cells (row l) 44))
  rw [size1] at HR
  obtain ⟨W1, HW1⟩ : ∃ W1, Hid (chain5 (w.alloc (.cells (row l) 44)) f 8 (.func (.func g) #[] lb) = W1) := ⟨_, rfl⟩
  have HZ : Hid (W1.heap.size = w.heap.size + 1 + 5) := by show _ = _; rw [← HW1.out, chain5_size, size1]
  unfold srW rdF rgF
  rw [HW1.out]
  have hce := agg_cells l
  have HV : Hid ((Value.agg (row l)).cells = row l) := agg_cells l
  clear hce
  generalize row l = V at *
  go_enter Tryd.func34, Tryd.ntmps34
  go_wp2_with (refine wpList_box rfl 44 (.tmp 0) rfl V HV.out ?_)
  go_wp2_with fail
  refine HR.out.mono ?_
  rintro e w1 ⟨rfl, hw1⟩
  obtain rfl : w1 = W1 := hw1.trans HW1.out
  clear hw1 HR
  go_wp2
  go_ret
  exact ⟨by rw [HZ.out]; rfl, rfl⟩

section
variable {bh bf bc bt' bg : Nat}
set_option maxHeartbeats 800000 in
theorem signReader1_no (bv bj : Nat) (l : List Int) (b : Nat) (hb : b < 256) (hl : l.length = 256) (w : World) (hV : w.heap[bv]? = some (.cells (row l) 44 (0, 0))) (hz : l.getD b 0 = 0) :
    Calls Tryd.prog 39 #[.int .u8 b, .pointer (some ⟨bv, 0, none⟩), .pointer (some ⟨bj, 0, none⟩)] w fun e w' => e = .returned (.bool false) ∧ w' = w := by
  have hc : w.cell? ⟨bv, b, none⟩ = some (.int .u8 0) := by
    rw [cell_of_row _ _ _ _ _ _ hV, row_get, ← hz, List.getD_eq_getElem?_getD, List.getElem?_eq_getElem (by omega)]; rfl
  have hb' : (b : Int) < 256 := by omega
  clear hV hz
  go_enter Tryd.func39, Tryd.ntmps39
  go_wp2
  go_ret
  exact ⟨rfl, rfl⟩
set_option maxHeartbeats 800000 in
theorem signReader1_yes (bv bj : Nat) (l : List Int) (b : Nat) (v : Int) (hb : b < 256) (hl : l.length = 256) (w : World) (hV : w.heap[bv]? = some (.cells (row l) 44 (0, 0))) (hz : l.getD b 0 = v + 1) (v0 : 0 ≤ v) (v1 : v < 255) (R : World → Prop)
    (hj : w.cell? ⟨bj, 0, none⟩ = some (rgF bh bf bc bt' bg))
    (hr : Calls Tryd.prog 33 #[.int .u8 v, .pointer (some ⟨bh, 0, none⟩), .pointer (some ⟨bf, 0, none⟩), .pointer (some ⟨bc, 0, none⟩), .pointer (some ⟨bt', 0, none⟩), .pointer (some ⟨bg, 0, none⟩)] w fun e w' => e = .returned (.tuple #[]) ∧ R w') :
    Calls Tryd.prog 39 #[.int .u8 b, .pointer (some ⟨bv, 0, none⟩), .pointer (some ⟨bj, 0, none⟩)] w fun e w' => e = .returned (.bool true) ∧ R w' := by
  obtain ⟨u, HU⟩ : ∃ u, Hid (v + 1 = u) := ⟨_, rfl⟩
  have hc : w.cell? ⟨bv, b, none⟩ = some (.int .u8 u) := by
    rw [cell_of_row _ _ _ _ _ _ hV, row_get, ← HU.out, ← hz, List.getD_eq_getElem?_getD, List.getElem?_eq_getElem (by omega)]; rfl
  have hb' : (b : Int) < 256 := by omega
  have hne : (u == 0) = false := beq_eq_false_iff_ne.2 (by have := HU.out; omega)
  have hw : IntKind.u8.wrap (u - 1) = v := by rw [IntKind.wrap_u8']; have := HU.out; omega
  have HR : Hid (Calls _ _ _ _ _) := hr
  have eR := eRegroup1
  unfold rgF at hj
  clear hV hz hr
  go_enter Tryd.func39, Tryd.ntmps39
  go_wp2_with fail
  refine HR.out.mono ?_
  rintro e w1 ⟨rfl, h1⟩
  have H1 : Hid (R w1) := h1
  clear h1
  go_wp2
  go_ret
  exact ⟨rfl, H1.out⟩
end

theorem eRead1 : ∀ args w, (callFunc 39 args).run Tryd.prog w = .ok (.enter 39 args) w := enters_of Tryd.func39 (by kernel_rfl) rfl
theorem vs_take (al l : List Int) (k : Nat) : (vs al l).take k = vs al (l.take k) := by unfold vs; rw [List.map_take]
theorem map_id' (l : List Int) : l.map (fun x => x) = l := by simp

-- the row and the box of the row
def base2 (w : World) (C : Nat) : World := (w.alloc (.cells (row (List.replicate C 0)) 5)).alloc (bx 39 (.slice (some ⟨w.heap.size, 0, none⟩) 0 C))
theorem base2_size (w : World) (C : Nat) : (base2 w C).heap.size = w.heap.size + 2 := by simp [base2]
theorem base2_out (w : World) (C : Nat) : Boxed (base2 w C) (w.heap.size + 1) 39 (.slice (some ⟨w.heap.size, 0, none⟩) 0 C) := heap_alloc2_new w _ _
theorem base2_own (w : World) (C : Nat) (hC : C ≤ 281474976710656) : (base2 w C).ownsRow w.heap.size 5 1 (.slice (some ⟨w.heap.size, 0, none⟩) 0 C) 0 [] :=
  (World.ownsRow_made (base := w.heap.size) (e := 5) (size := 1) w (row (List.replicate C 0)) C (Nat.le_refl _) (by unfold maxLen; omega) (by rw [row_size]; simp)).alloc _
theorem base2_below (w : World) (C : Nat) : Below w.heap.size w (base2 w C) := ((Below.refl _ _).alloc (Nat.le_refl _) _).alloc (by simp) _
theorem own_below {w w' : World} {B : Nat} {v : Value} {n : Nat} {xs : List Value} (h : w.ownsRow B 5 1 v n xs) (hb : Below w.heap.size w w') : w'.ownsRow B 5 1 v n xs := by
  refine ⟨h.1, ?_⟩
  rcases h.2 with hn | ⟨g, cap, cur, rfl, hbg, hg, rest⟩
  · exact .inl hn
  · exact .inr ⟨g, cap, cur, rfl, hbg, (hb.block g (Array.getElem?_eq_some_iff.1 hg).1).trans hg, rest⟩

-- the state when a reader of signs stands
theorem St.reader (w0 w : World) (B bo C g cap : Nat) (cs : List (Nat × Obj)) (l : List Int) (f : Nat) (give : Value) (hb : Below B w0 w) (hB : B ≤ w.heap.size) (hlo : B ≤ bo)
    (hcs : ∀ x ∈ cs, w.heap[x.1]? = some x.2 ∧ (∀ a fz, x.2 ≠ .cells a 5 fz) ∧ x.1 ≠ bo)
    (hout : Boxed w bo 39 (.slice (some ⟨g, 0, none⟩) 0 cap)) (hC : C ≤ cap) (how : w.ownsRow B 5 1 (.slice (some ⟨g, 0, none⟩) 0 cap) 0 []) :
    St w0 B bo C (w.heap.size + 1 + 3) (w.heap.size + 1 + 4) ((w.heap.size + 1 + 5, bx 40 (rgF (w.heap.size + 1 + 3) (w.heap.size + 1) (w.heap.size + 1 + 4) (w.heap.size + 1 + 1) (w.heap.size + 1 + 2))) :: (w.heap.size + 1, bx 3 (.int .i64 f)) :: (w.heap.size + 1 + 1, bx 3 (.int .i64 8)) :: (w.heap.size + 1 + 2, bx 40 give) :: (w.heap.size, .cells (row l) 44 (0, 0)) :: cs) [] 0 0 (srW w l f give) := by
  have hlt := hout.lt
  have S0 := St.start w0 (w.alloc (.cells (row l) 44)) B bo C g cap ((w.heap.size, .cells (row l) 44 (0, 0)) :: cs) f 8 give (hb.alloc hB _) (by simp; omega) hlo
    (fun x hx => by
      rcases List.mem_cons.1 hx with rfl | hx
      · exact ⟨heap_alloc_new w _, nou8 v_ne _ _, by show w.heap.size ≠ bo; omega⟩
      · have hx' := hcs x hx
        exact ⟨(heap_alloc_old w _ (Array.getElem?_eq_some_iff.1 hx'.1).1).trans hx'.1, hx'.2⟩)
    (hout.alloc _) hC (how.alloc _)
  rw [size1] at S0
  have S1 := St.more S0 (bx 40 (rgF (w.heap.size + 1 + 3) (w.heap.size + 1) (w.heap.size + 1 + 4) (w.heap.size + 1 + 1) (w.heap.size + 1 + 2))) (nou8 fb_ne _ _)
  rw [chain5_size, size1] at S1
  exact S1

-- one sign read
theorem read_sign {w0 : World} {B bo C bh bc : Nat} {cs : List (Nat × Obj)} (AL : List Int) (f : Nat) (hf : f ≤ 6) (hA : Alpha AL (2 ^ f)) (bv bj bf bt' bg g N : Nat) (lb : Array Value) (eg : ∀ args w, (callFunc g args).run Tryd.prog w = .ok (.enter g args) w)
    (mv : (bv, .cells (row (valK AL AL.length)) 44 (0, 0)) ∈ cs) (mj : (bj, bx 40 (rgF bh bf bc bt' bg)) ∈ cs) (mf : (bf, bx 3 (.int .i64 f)) ∈ cs) (mt : (bt', bx 3 (.int .i64 8)) ∈ cs) (mg : (bg, bx 40 (.func (.func g) #[] lb)) ∈ cs)
    (hgive : ∀ q h c x w, 0 ≤ x → x < 2 ^ 8 → q.length < N → St w0 B bo C bh bc cs q h c w → Calls Tryd.prog g (#[.int .u8 x] ++ lb) w fun e w' => e = .returned (.tuple #[]) ∧ St w0 B bo C bh bc cs (q ++ [x]) h c w')
    (p : List Int) (h b : Int) (c : Nat) (h0 : 0 ≤ h) (hh : h < 2 ^ c) (hc : c < 8) (b0 : 0 ≤ b) (b1 : b < 256) (w : World) (s : St w0 B bo C bh bc cs p h c w) (hroom : p.length + (flush 8 (c + f) (h * 2 ^ f + (vl AL b - 1)) (c + f)).1.length ≤ N) :
    Calls Tryd.prog 39 #[.int .u8 b, .pointer (some ⟨bv, 0, none⟩), .pointer (some ⟨bj, 0, none⟩)] w fun e w' =>
      (vl AL b = 0 ∧ e = .returned (.bool false) ∧ w' = w) ∨ (vl AL b ≠ 0 ∧ e = .returned (.bool true) ∧ St w0 B bo C bh bc cs (p ++ (flush 8 (c + f) (h * 2 ^ f + (vl AL b - 1)) (c + f)).1) (flush 8 (c + f) (h * 2 ^ f + (vl AL b - 1)) (c + f)).2.1 (flush 8 (c + f) (h * 2 ^ f + (vl AL b - 1)) (c + f)).2.2 w') := by
  obtain ⟨n, rfl⟩ := Int.eq_ofNat_of_zero_le b0
  have hV := (s.boxes _ mv).1
  by_cases hz : vl AL n = 0
  · refine (signReader1_no bv bj _ n (by omega) (valK_length _ _) w hV (by simpa [vl] using hz)).mono ?_
    rintro e w1 ⟨he, hw⟩
    exact .inl ⟨hz, he, hw⟩
  · obtain ⟨_, v0, v1⟩ := hA.sg_vl n ⟨b0, b1⟩ hz
    have hp : (2 : Int) ^ f ≤ 64 := pow2_le (b := 6) hf
    have v1' : vl AL n - 1 < 2 ^ f := by exact_mod_cast v1
    have r := regroup1 f 8 (by omega) (by omega) (by omega) N bf bt' bg g lb eg (fun x => x) mf mt mg hgive p h (vl AL n - 1) c h0 hh hc v0 v1' w s hroom
    refine (signReader1_yes bv bj _ n (vl AL n - 1) (by omega) (valK_length _ _) w hV (by simp [vl]) v0 (by omega) _ (s.at mj) r).mono ?_
    rintro e w1 ⟨he, h1⟩
    rw [map_id'] at h1
    exact .inr ⟨hz, he, h1⟩

theorem ok_snoc (al l : List Int) (b : Int) : Ok al (l ++ [b]) ↔ Ok al l ∧ vl al b ≠ 0 := by
  unfold Ok
  constructor
  · intro h; exact ⟨fun x hx => h x (by simp [hx]), h b (by simp)⟩
  · rintro ⟨h1, h2⟩ x hx
    rcases List.mem_append.1 hx with hx | hx
    · exact h1 x hx
    · rw [List.mem_singleton.1 hx]; exact h2
theorem vs_snoc (al l : List Int) (b : Int) : vs al (l ++ [b]) = vs al l ++ [vl al b - 1] := by simp [vs]
theorem not_ok (al : List Int) (s : ByteArray) (k : Nat) (hk : k < s.size) (hz : vl al (bt s k) = 0) : ¬ Ok al (bs s) := by
  intro h
  refine h (bt s k) ?_ hz
  rw [← bs_get s k hk]
  exact List.getElem_mem _
open Classical in
noncomputable def outR (AL : List Int) (f : Nat) (s : ByteArray) : Value := if Ok AL (bs s) then .tuple #[.string (str (mach f 8 (vs AL (bs s))).1), .bool true] else .tuple #[.string ByteArray.empty, .bool false]

end Go.Proofs.YthblljfkodbbeabDoor.ti
