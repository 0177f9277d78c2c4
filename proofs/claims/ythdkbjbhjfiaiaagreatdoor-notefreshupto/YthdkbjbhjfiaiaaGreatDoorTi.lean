import Derived.Test.YthdkbjbhjfiaiaaGreatDoorTh
namespace Go.Proofs.YthdkbjbhjfiaiaaGreatDoor.ti
open Go.RowKit Go.PlainAid
open Go.Proofs.YthdkbjbhjfiaiaaGreatDoor.ta Go.Proofs.YthdkbjbhjfiaiaaGreatDoor.tb Go.Proofs.YthdkbjbhjfiaiaaGreatDoor.tc Go.Proofs.YthdkbjbhjfiaiaaGreatDoor.td Go.Proofs.YthdkbjbhjfiaiaaGreatDoor.te Go.Proofs.YthdkbjbhjfiaiaaGreatDoor.tf Go.Proofs.YthdkbjbhjfiaiaaGreatDoor.tg Go.Proofs.YthdkbjbhjfiaiaaGreatDoor.th
set_option linter.unusedVariables false

theorem wpList_box {P : Program} {ops : Array Oper} {rest : List Oper} {o : Oper} {a : Act} {w : World} {Q : Exit → Act → World → Prop} (hgd : o.guard = none) (t : TypeId) (x : Operand) (ho : o.op = .box t x) (cells : Array Value) (hx : (a.eval x).cells = cells)
    (h : wpList P ops Q rest (a.put o.dst (.pointer (some ⟨w.heap.size, 0, none⟩))) (w.alloc (.cells cells t))) : wpList P ops Q (o :: rest) a w := by
  subst hx
  refine wpList_plain hgd fun K hK => ?_
  unfold Oper.wp execOp
  simp only [ho, Sem.run_bind, Instr.box, newVar, newRow, run_newObj_alloc, Sem.run_pure, Result.andThen_ok]
  exact hK _ _ h

def rdF (bv bj : Nat) : Value := .func (.func 137) #[] #[.pointer (some ⟨bv, 0, none⟩), .pointer (some ⟨bj, 0, none⟩)]
def srW (w : World) (l : List Int) (f : Nat) (give : Value) : World := (chain5 (w.alloc (.cells (row l) 151)) f 8 give).alloc (bx 153 (rgF (w.heap.size + 1 + 3) (w.heap.size + 1) (w.heap.size + 1 + 4) (w.heap.size + 1 + 1) (w.heap.size + 1 + 2)))

set_option maxHeartbeats 800000 in
set_option maxRecDepth 100000 in
theorem signReader (l : List Int) (f : Nat) (g : Nat) (lb : Array Value) (w : World) :
    Calls Tryz.prog 115 #[.agg (row l), .int .i64 f, .func (.func g) #[] lb] w fun e w' => e = .returned (rdF w.heap.size (w.heap.size + 1 + 5)) ∧ w' = srW w l f (.func (.func g) #[] lb) := by
  have hmf : ∀ (fn : Fn) (first cap : Array Value) (w : World), (Instr.makeFunc fn first cap).run Tryz.prog w = .ok (.func fn first cap) w := fun _ _ _ _ => rfl
  have HR : Hid (Calls _ _ _ _ _) := regroup f 8 (.func (.func g) #[] lb) rfl g lb rfl (w.alloc (.cells (row l) 151))
  rw [size1] at HR
  obtain ⟨W1, HW1⟩ : ∃ W1, Hid (chain5 (w.alloc (.cells (row l) 151)) f 8 (.func (.func g) #[] lb) = W1) := ⟨_, rfl⟩
  have HZ : Hid (W1.heap.size = w.heap.size + 1 + 5) := by show _ = _; rw [← HW1.out, chain5_size, size1]
  unfold srW rdF rgF
  rw [HW1.out]
  have hce := agg_cells l
  have HV : Hid ((Value.agg (row l)).cells = row l) := agg_cells l
  clear hce
  generalize row l = V at *
  go_enter Tryz.func115, Tryz.ntmps115
  go_wp2_with (refine wpList_box rfl 151 (.tmp 0) rfl V HV.out ?_)
  go_wp2_with fail
  refine HR.out.mono ?_
  rintro e w1 ⟨rfl, hw1⟩
  obtain rfl : w1 = W1 := hw1.trans HW1.out
  clear hw1 HR
  go_wp2
  go_ret
  exact ⟨by rw [HZ.out]; rfl, rfl⟩

section
variable {bh bf bc bt' bg : Nat}
set_option maxHeartbeats 800000 in
theorem signReader1_no (bv bj : Nat) (l : List Int) (b : Nat) (hb : b < 256) (hl : l.length = 256) (w : World) (hV : w.heap[bv]? = some (.cells (row l) 151 (0, 0))) (hz : l.getD b 0 = 0) :
    Calls Tryz.prog 137 #[.int .u8 b, .pointer (some ⟨bv, 0, none⟩), .pointer (some ⟨bj, 0, none⟩)] w fun e w' => e = .returned (.bool false) ∧ w' = w := by
  have hc : w.cell? ⟨bv, b, none⟩ = some (.int .u8 0) := by
    rw [cell_of_row _ _ _ _ _ _ hV, row_get, ← hz, List.getD_eq_getElem?_getD, List.getElem?_eq_getElem (by omega)]; rfl
  have hb' : (b : Int) < 256 := by omega
  clear hV hz
  go_enter Tryz.func137, Tryz.ntmps137
  go_wp2
  go_ret
  exact ⟨rfl, rfl⟩
set_option maxHeartbeats 800000 in
theorem signReader1_yes (bv bj : Nat) (l : List Int) (b : Nat) (v : Int) (hb : b < 256) (hl : l.length = 256) (w : World) (hV : w.heap[bv]? = some (.cells (row l) 151 (0, 0))) (hz : l.getD b 0 = v + 1) (v0 : 0 ≤ v) (v1 : v < 255) (R : World → Prop)
    (hj : w.cell? ⟨bj, 0, none⟩ = some (rgF bh bf bc bt' bg))
    (hr : Calls Tryz.prog 139 #[.int .u8 v, .pointer (some ⟨bh, 0, none⟩), .pointer (some ⟨bf, 0, none⟩), .pointer (some ⟨bc, 0, none⟩), .pointer (some ⟨bt', 0, none⟩), .pointer (some ⟨bg, 0, none⟩)] w fun e w' => e = .returned (.tuple #[]) ∧ R w') :
    Calls Tryz.prog 137 #[.int .u8 b, .pointer (some ⟨bv, 0, none⟩), .pointer (some ⟨bj, 0, none⟩)] w fun e w' => e = .returned (.bool true) ∧ R w' := by
  obtain ⟨u, HU⟩ : ∃ u, Hid (v + 1 = u) := ⟨_, rfl⟩
  have hc : w.cell? ⟨bv, b, none⟩ = some (.int .u8 u) := by
    rw [cell_of_row _ _ _ _ _ _ hV, row_get, ← HU.out, ← hz, List.getD_eq_getElem?_getD, List.getElem?_eq_getElem (by omega)]; rfl
  have hb' : (b : Int) < 256 := by omega
  have hne : (u == 0) = false := beq_eq_false_iff_ne.2 (by have := HU.out; omega)
  have hw : IntKind.u8.wrap (u - 1) = v := by rw [IntKind.wrap_u8']; have := HU.out; omega
  have HR : Hid (Calls _ _ _ _ _) := hr
  have eR := eRegroup1
  unfold rgF at hj
  clear hV hz hr
  go_enter Tryz.func137, Tryz.ntmps137
  go_wp2_with fail
  refine HR.out.mono ?_
  rintro e w1 ⟨rfl, h1⟩
  have H1 : Hid (R w1) := h1
  clear h1
  go_wp2
  go_ret
  exact ⟨rfl, H1.out⟩
end

theorem eOut1 : ∀ args w, (callFunc 117 args).run Tryz.prog w = .ok (.enter 117 args) w := enters_of Tryz.func117 (by kernel_rfl) rfl
theorem eRead1 : ∀ args w, (callFunc 137 args).run Tryz.prog w = .ok (.enter 137 args) w := enters_of Tryz.func137 (by kernel_rfl) rfl
theorem vs_take (al l : List Int) (k : Nat) : (vs al l).take k = vs al (l.take k) := by unfold vs; rw [List.map_take]
theorem map_id' (l : List Int) : l.map (fun x => x) = l := by simp

-- the row and the box of the row
def base2 (w : World) (C : Nat) : World := (w.alloc (.cells (row (List.replicate C 0)) 5)).alloc (bx 77 (.slice (some ⟨w.heap.size, 0, none⟩) 0 C))
theorem base2_size (w : World) (C : Nat) : (base2 w C).heap.size = w.heap.size + 2 := by simp [base2]
theorem base2_out (w : World) (C : Nat) : Boxed (base2 w C) (w.heap.size + 1) 77 (.slice (some ⟨w.heap.size, 0, none⟩) 0 C) := heap_alloc2_new w _ _
theorem base2_own (w : World) (C : Nat) (hC : C ≤ 281474976710656) : (base2 w C).ownsRow w.heap.size 5 1 (.slice (some ⟨w.heap.size, 0, none⟩) 0 C) 0 [] :=
  (World.ownsRow_made (base := w.heap.size) (e := 5) (size := 1) w (row (List.replicate C 0)) C (Nat.le_refl _) (by unfold maxLen; omega) (by rw [row_size]; simp)).alloc _
theorem base2_below (w : World) (C : Nat) : Below w.heap.size w (base2 w C) := ((Below.refl _ _).alloc (Nat.le_refl _) _).alloc (by simp) _
theorem own_below {w w' : World} {B : Nat} {v : Value} {n : Nat} {xs : List Value} (h : w.ownsRow B 5 1 v n xs) (hb : Below w.heap.size w w') : w'.ownsRow B 5 1 v n xs := by
  refine ⟨h.1, ?_⟩
  rcases h.2 with hn | ⟨g, cap, cur, rfl, hbg, hg, rest⟩
  · exact .inl hn
  · exact .inr ⟨g, cap, cur, rfl, hbg, (hb.block g (Array.getElem?_eq_some_iff.1 hg).1).trans hg, rest⟩

-- the state when a reader of signs stands
theorem St.reader (w0 w : World) (B bo C g cap : Nat) (cs : List (Nat × Obj)) (l : List Int) (f : Nat) (give : Value) (hb : Below B w0 w) (hB : B ≤ w.heap.size) (hlo : B ≤ bo)
    (hcs : ∀ x ∈ cs, w.heap[x.1]? = some x.2 ∧ (∀ a fz, x.2 ≠ .cells a 5 fz) ∧ x.1 ≠ bo)
    (hout : Boxed w bo 77 (.slice (some ⟨g, 0, none⟩) 0 cap)) (hC : C ≤ cap) (how : w.ownsRow B 5 1 (.slice (some ⟨g, 0, none⟩) 0 cap) 0 []) :
    St w0 B bo C (w.heap.size + 1 + 3) (w.heap.size + 1 + 4) ((w.heap.size + 1 + 5, bx 153 (rgF (w.heap.size + 1 + 3) (w.heap.size + 1) (w.heap.size + 1 + 4) (w.heap.size + 1 + 1) (w.heap.size + 1 + 2))) :: (w.heap.size + 1, bx 3 (.int .i64 f)) :: (w.heap.size + 1 + 1, bx 3 (.int .i64 8)) :: (w.heap.size + 1 + 2, bx 153 give) :: (w.heap.size, .cells (row l) 151 (0, 0)) :: cs) [] 0 0 (srW w l f give) := by
  have hlt := hout.lt
  have S0 := St.start w0 (w.alloc (.cells (row l) 151)) B bo C g cap ((w.heap.size, .cells (row l) 151 (0, 0)) :: cs) f 8 give (hb.alloc hB _) (by simp; omega) hlo
    (fun x hx => by
      rcases List.mem_cons.1 hx with rfl | hx
      · exact ⟨heap_alloc_new w _, nou8 v_ne _ _, by show w.heap.size ≠ bo; omega⟩
      · have hx' := hcs x hx
        exact ⟨(heap_alloc_old w _ (Array.getElem?_eq_some_iff.1 hx'.1).1).trans hx'.1, hx'.2⟩)
    (hout.alloc _) hC (how.alloc _)
  rw [size1] at S0
  have S1 := St.more S0 (bx 153 (rgF (w.heap.size + 1 + 3) (w.heap.size + 1) (w.heap.size + 1 + 4) (w.heap.size + 1 + 1) (w.heap.size + 1 + 2))) (nou8 fb_ne _ _)
  rw [chain5_size, size1] at S1
  exact S1

-- one sign read
theorem read_sign {w0 : World} {B bo C bh bc : Nat} {cs : List (Nat × Obj)} (AL : List Int) (f : Nat) (hf : f ≤ 6) (hA : Alpha AL (2 ^ f)) (bv bj bf bt' bg g N : Nat) (lb : Array Value) (eg : ∀ args w, (callFunc g args).run Tryz.prog w = .ok (.enter g args) w)
    (mv : (bv, .cells (row (valK AL AL.length)) 151 (0, 0)) ∈ cs) (mj : (bj, bx 153 (rgF bh bf bc bt' bg)) ∈ cs) (mf : (bf, bx 3 (.int .i64 f)) ∈ cs) (mt : (bt', bx 3 (.int .i64 8)) ∈ cs) (mg : (bg, bx 153 (.func (.func g) #[] lb)) ∈ cs)
    (hgive : ∀ q h c x w, 0 ≤ x → x < 2 ^ 8 → q.length < N → St w0 B bo C bh bc cs q h c w → Calls Tryz.prog g (#[.int .u8 x] ++ lb) w fun e w' => e = .returned (.tuple #[]) ∧ St w0 B bo C bh bc cs (q ++ [x]) h c w')
    (p : List Int) (h b : Int) (c : Nat) (h0 : 0 ≤ h) (hh : h < 2 ^ c) (hc : c < 8) (b0 : 0 ≤ b) (b1 : b < 256) (w : World) (s : St w0 B bo C bh bc cs p h c w) (hroom : p.length + (flush 8 (c + f) (h * 2 ^ f + (vl AL b - 1)) (c + f)).1.length ≤ N) :
    Calls Tryz.prog 137 #[.int .u8 b, .pointer (some ⟨bv, 0, none⟩), .pointer (some ⟨bj, 0, none⟩)] w fun e w' =>
      (vl AL b = 0 ∧ e = .returned (.bool false) ∧ w' = w) ∨ (vl AL b ≠ 0 ∧ e = .returned (.bool true) ∧ St w0 B bo C bh bc cs (p ++ (flush 8 (c + f) (h * 2 ^ f + (vl AL b - 1)) (c + f)).1) (flush 8 (c + f) (h * 2 ^ f + (vl AL b - 1)) (c + f)).2.1 (flush 8 (c + f) (h * 2 ^ f + (vl AL b - 1)) (c + f)).2.2 w') := by
  obtain ⟨n, rfl⟩ := Int.eq_ofNat_of_zero_le b0
  have hV := (s.boxes _ mv).1
  by_cases hz : vl AL n = 0
  · refine (signReader1_no bv bj _ n (by omega) (valK_length _ _) w hV (by simpa [vl] using hz)).mono ?_
    rintro e w1 ⟨he, hw⟩
    exact .inl ⟨hz, he, hw⟩
  · obtain ⟨_, v0, v1⟩ := hA.sg_vl n ⟨b0, b1⟩ hz
    have hp : (2 : Int) ^ f ≤ 64 := pow2_le (b := 6) hf
    have v1' : vl AL n - 1 < 2 ^ f := by exact_mod_cast v1
    have r := regroup1 f 8 (by omega) (by omega) (by omega) N bf bt' bg g lb eg (fun x => x) mf mt mg hgive p h (vl AL n - 1) c h0 hh hc v0 v1' w s hroom
    refine (signReader1_yes bv bj _ n (vl AL n - 1) (by omega) (valK_length _ _) w hV (by simp [vl]) v0 (by omega) _ (s.at mj) r).mono ?_
    rintro e w1 ⟨he, h1⟩
    rw [map_id'] at h1
    exact .inr ⟨hz, he, h1⟩

theorem ok_snoc (al l : List Int) (b : Int) : Ok al (l ++ [b]) ↔ Ok al l ∧ vl al b ≠ 0 := by
  unfold Ok
  constructor
  · intro h; exact ⟨fun x hx => h x (by simp [hx]), h b (by simp)⟩
  · rintro ⟨h1, h2⟩ x hx
    rcases List.mem_append.1 hx with hx | hx
    · exact h1 x hx
    · rw [List.mem_singleton.1 hx]; exact h2
theorem vs_snoc (al l : List Int) (b : Int) : vs al (l ++ [b]) = vs al l ++ [vl al b - 1] := by simp [vs]
theorem not_ok (al : List Int) (s : ByteArray) (k : Nat) (hk : k < s.size) (hz : vl al (bt s k) = 0) : ¬ Ok al (bs s) := by
  intro h
  refine h (bt s k) ?_ hz
  rw [← bs_get s k hk]
  exact List.getElem_mem _
open Classical in
noncomputable def outR (AL : List Int) (f : Nat) (s : ByteArray) : Value := if Ok AL (bs s) then .tuple #[.string (str (mach f 8 (vs AL (bs s))).1), .bool true] else .tuple #[.string ByteArray.empty, .bool false]

set_option maxHeartbeats 1600000 in
set_option maxRecDepth 100000 in
theorem outOfSigns (s al : ByteArray) (AL : List Int) (f : Nat) (hf : f ≤ 6) (hal : bs al = AL) (hA : Alpha AL (2 ^ f)) (hs : s.size ≤ 281474976710656) (w : World) :
    Calls Tryz.prog 84 #[.string s, .string al, .int .i64 f] w fun e w' => e = .returned (outR AL f s) ∧ Below w.heap.size w w' := by
  have hmf : ∀ (fn : Fn) (first cap : Array Value) (w : World), (Instr.makeFunc fn first cap).run Tryz.prog w = .ok (.func fn first cap) w := fun _ _ _ _ => rfl
  obtain ⟨C, HC⟩ : ∃ C, Hid (s.size * f / 8 = C) := ⟨_, rfl⟩
  have hmul : s.size * f ≤ s.size * 6 := Nat.mul_le_mul_left _ hf
  have hCm : C ≤ 281474976710656 := by rw [← HC.out]; omega
  obtain ⟨M, HM⟩ : ∃ M, Hid (s.size * f = M) := ⟨_, rfl⟩
  have hmm : (s.size : Int) * (f : Int) = (M : Int) := by rw [← HM.out, Int.natCast_mul]
  have hM1 : M ≤ 1688849860263936 := by rw [← HM.out]; omega
  have hq : (M : Int) / 8 = (C : Int) := by rw [← HC.out, HM.out, Int.natCast_ediv]; rfl
  have hmk : ∀ w' : World, (Instr.makeSlice 77 (.int .i64 0) (.int .i64 C)).run Tryz.prog w' = .ok (.slice (some ⟨w'.heap.size, 0, none⟩) 0 C) (w'.alloc (.cells (row (List.replicate C 0)) 5)) := fun w' => make_wide w' C hCm
  have hlA := hA.len
  have hz : al.size = AL.length := by rw [← hal, bs_length]
  have V1 : Hid (Calls _ _ _ _ _) := valuesOf al (by rw [hz, hlA]; exact hA.most) (base2 w C)
  rw [hal, hz] at V1
  obtain ⟨VL, HVL⟩ : ∃ VL, Hid (valK AL AL.length = VL) := ⟨_, rfl⟩
  rw [HVL.out] at V1
  -- what the loop does, from whatever world
  have T : Hid (∀ w2, Below (base2 w C).heap.size (base2 w C) w2 → Calls Tryz.prog 85 #[.string s, rdF w2.heap.size (w2.heap.size + 1 + 5)] (srW w2 VL f (.func (.func 117) #[] #[.pointer (some ⟨w.heap.size + 1, 0, none⟩)])) fun e w' =>
      (e = .returned (.bool true) ∧ Ok AL (bs s) ∧ Below w.heap.size w w' ∧ ∃ g cap, w'.cell? ⟨w.heap.size + 1, 0, none⟩ = some (.slice (some ⟨g, 0, none⟩) (mach f 8 (vs AL (bs s))).1.length cap) ∧ w'.ownsRow w.heap.size 5 1 (.slice (some ⟨g, 0, none⟩) (mach f 8 (vs AL (bs s))).1.length cap) (mach f 8 (vs AL (bs s))).1.length ((mach f 8 (vs AL (bs s))).1.map (Value.int .u8))) ∨
      (e = .returned (.bool false) ∧ ¬ Ok AL (bs s) ∧ Below w.heap.size w w')) := by
    intro w2 hb2
    have hsz := base2_size w C
    have hbw : Below w.heap.size w w2 := (base2_below w C).trans (hb2.mono (by omega))
    have hs2 := hb2.size
    have S0 := St.reader w w2 w.heap.size (w.heap.size + 1) C w.heap.size C [] VL f (.func (.func 117) #[] #[.pointer (some ⟨w.heap.size + 1, 0, none⟩)]) hbw (by omega) (by omega) (fun x hx => by simp at hx)
      ((hb2.block _ (base2_out w C).lt).trans (base2_out w C)) (Nat.le_refl _) (own_below (base2_own w C hCm) hb2)
    obtain ⟨cs, hcs⟩ : ∃ cs, (w2.heap.size + 1 + 5, bx 153 (rgF (w2.heap.size + 1 + 3) (w2.heap.size + 1) (w2.heap.size + 1 + 4) (w2.heap.size + 1 + 1) (w2.heap.size + 1 + 2))) :: (w2.heap.size + 1, bx 3 (.int .i64 f)) :: (w2.heap.size + 1 + 1, bx 3 (.int .i64 8)) :: (w2.heap.size + 1 + 2, bx 153 (.func (.func 117) #[] #[.pointer (some ⟨w.heap.size + 1, 0, none⟩)])) :: (w2.heap.size, .cells (row VL) 151 (0, 0)) :: [] = cs := ⟨_, rfl⟩
    rw [hcs] at S0
    have m0 : (w2.heap.size + 1 + 5, bx 153 (rgF (w2.heap.size + 1 + 3) (w2.heap.size + 1) (w2.heap.size + 1 + 4) (w2.heap.size + 1 + 1) (w2.heap.size + 1 + 2))) ∈ cs := by rw [← hcs]; simp
    have m1 : (w2.heap.size + 1, bx 3 (.int .i64 f)) ∈ cs := by rw [← hcs]; simp
    have m2 : (w2.heap.size + 1 + 1, bx 3 (.int .i64 8)) ∈ cs := by rw [← hcs]; simp
    have m3 : (w2.heap.size + 1 + 2, bx 153 (.func (.func 117) #[] #[.pointer (some ⟨w.heap.size + 1, 0, none⟩)])) ∈ cs := by rw [← hcs]; simp
    have m4 : (w2.heap.size, .cells (row (valK AL AL.length)) 151 (0, 0)) ∈ cs := by rw [HVL.out, ← hcs]; simp
    have r := through s (by omega) 137 #[.pointer (some ⟨w2.heap.size, 0, none⟩), .pointer (some ⟨w2.heap.size + 1 + 5, 0, none⟩)] eRead1
      (fun k w' => Ok AL (btL s k) ∧ St w w.heap.size (w.heap.size + 1) C (w2.heap.size + 1 + 3) (w2.heap.size + 1 + 4) cs (mach f 8 (vs AL (btL s k))).1 (mach f 8 (vs AL (btL s k))).2.1 (mach f 8 (vs AL (btL s k))).2.2 w')
      (fun w' => ¬ Ok AL (bs s) ∧ Below w.heap.size w w') (fun k w' hk ⟨hok, sk⟩ => by
        have hin : In (2 ^ f : Nat) (vs AL (btL s k)) := hA.vs_in _ (btL_in s k) hok
        have iv := machL_inv f 8 (by omega) (vs AL (btL s k)) (by exact_mod_cast hin) k (by rw [vs_length, btL_length]; exact Nat.le_refl _)
        rw [List.take_of_length_le (by rw [vs_length, btL_length]; exact Nat.le_refl _)] at iv
        have b0 := bt_nonneg s k
        have b1 := bt_le s k
        have hlen : (mach f 8 (vs AL (btL s k))).1.length + (flush 8 ((mach f 8 (vs AL (btL s k))).2.2 + f) ((mach f 8 (vs AL (btL s k))).2.1 * 2 ^ f + (vl AL (bt s k) - 1)) ((mach f 8 (vs AL (btL s k))).2.2 + f)).1.length ≤ C ∨ vl AL (bt s k) = 0 := by
          by_cases hz : vl AL (bt s k) = 0
          · exact .inr hz
          · left
            obtain ⟨_, v0, v1⟩ := hA.sg_vl (bt s k) ⟨b0, by omega⟩ hz
            have iv' := stp_inv f 8 (by omega) k _ (vl AL (bt s k) - 1) iv v0 (by exact_mod_cast v1)
            rw [← HC.out, Nat.le_div_iff_mul_le (by omega)]
            have h1 := iv'.len
            have h2 : f * (k + 1) ≤ f * s.size := Nat.mul_le_mul_left _ hk
            simp only [stp, List.length_append] at h1
            rw [Nat.mul_comm s.size f]
            omega
        rcases hlen with hlen | hz
        · refine (read_sign AL f hf hA w2.heap.size (w2.heap.size + 1 + 5) (w2.heap.size + 1) (w2.heap.size + 1 + 1) (w2.heap.size + 1 + 2) 117 C #[.pointer (some ⟨w.heap.size + 1, 0, none⟩)] eOut1 m4 m0 m1 m2 m3 (fun q h c x w3 x0 x1 hq sq => outOfSigns1 q h c x w3 sq (.inl hq)) _ _ (bt s k) _ iv.h0 iv.h1 iv.ct b0 (by omega) w' sk hlen).mono ?_
          rintro e w3 (⟨hz, he, rfl⟩ | ⟨hz, he, h3⟩)
          · exact .inr ⟨he, not_ok AL s k hk hz, sk.below⟩
          · refine .inl ⟨he, ?_, ?_⟩
            · rw [btL_succ, ok_snoc]; exact ⟨hok, hz⟩
            · rw [btL_succ, vs_snoc, mach_snoc]; exact h3
        · obtain ⟨n, hn⟩ := Int.eq_ofNat_of_zero_le b0
          rw [hn] at hz ⊢
          refine (signReader1_no w2.heap.size (w2.heap.size + 1 + 5) _ n (by omega) (valK_length _ _) w' (sk.boxes _ m4).1 (by simpa [vl] using hz)).mono ?_
          rintro e w3 ⟨he, rfl⟩
          exact .inr ⟨he, not_ok AL s k hk (by rw [hn]; exact hz), sk.below⟩)
      _ ⟨fun x hx => by simp [btL] at hx, S0⟩
    refine r.mono ?_
    rintro e w3 (⟨he, hok, s3⟩ | ⟨he, hno, hb⟩)
    · obtain ⟨g, cap, h1, _, h3⟩ := s3.out
      exact .inl ⟨he, hok, s3.below, g, cap, h1.cell, h3⟩
    · exact .inr ⟨he, hno, hb⟩
  have HO1 : Hid (Ok AL (bs s) → outR AL f s = .tuple #[.string (str (mach f 8 (vs AL (bs s))).1), .bool true]) := fun h => by unfold outR; rw [if_pos h]
  have HO2 : Hid (¬ Ok AL (bs s) → outR AL f s = .tuple #[.string ByteArray.empty, .bool false]) := fun h => by unfold outR; rw [if_neg h]
  obtain ⟨L, HL⟩ : ∃ L, Hid ((mach f 8 (vs AL (bs s))).1 = L) := ⟨_, rfl⟩
  rw [HL.out] at T HO1
  obtain ⟨RR, HRR⟩ : ∃ RR, Hid (outR AL f s = RR) := ⟨_, rfl⟩
  rw [HRR.out] at HO1 HO2 ⊢
  have R1 : Hid (∀ w2, Calls Tryz.prog 115 #[.agg (row VL), .int .i64 f, .func (.func 117) #[] #[.pointer (some ⟨w.heap.size + 1, 0, none⟩)]] w2 fun e w' => e = .returned (rdF w2.heap.size (w2.heap.size + 1 + 5)) ∧ w' = srW w2 VL f (.func (.func 117) #[] #[.pointer (some ⟨w.heap.size + 1, 0, none⟩)])) := fun w2 => signReader VL f 117 _ w2
  generalize row VL = V at *
  clear hal hA hz hlA hmul
  go_enter Tryz.func84, Tryz.ntmps84
  go_wp2_with fail
  refine V1.out.mono ?_
  rintro e w2 ⟨rfl, hb2⟩
  have T2 : Hid (Calls _ _ _ _ _) := T.out w2 hb2
  clear hb2 T V1 hmk
  unfold rdF at T2 R1
  obtain ⟨W3, HW3⟩ : ∃ W3, Hid (srW w2 VL f (.func (.func 117) #[] #[.pointer (some ⟨w.heap.size + 1, 0, none⟩)]) = W3) := ⟨_, rfl⟩
  rw [HW3.out] at T2
  go_wp2_with fail
  refine (R1.out w2).mono ?_
  rintro e w3 ⟨rfl, hw3⟩
  obtain rfl : w3 = W3 := hw3.trans HW3.out
  clear hw3 R1 HW3
  go_wp2_with fail
  refine T2.out.mono ?_
  rintro e w4 (⟨rfl, hok, hb4, g, cap, hc4, how⟩ | ⟨rfl, hno, hb4⟩)
  · have hcv := own_conv w4 w.heap.size _ L L.length rfl how
    have HB : Hid (Below w.heap.size w w4) := hb4
    have HE := HO1.out hok
    have HEE : Hid (RR = _) := HE
    clear hb4 how T2 HE hok HO1 HO2
    go_wp2
    go_ret2
    exact ⟨by rw [HEE.out]; rfl, HB.out⟩
  · have HB : Hid (Below w.heap.size w w4) := hb4
    have HEE : Hid (RR = _) := HO2.out hno
    clear hb4 T2 hno HO1 HO2
    go_wp2
    go_ret2
    exact ⟨by rw [HEE.out]; rfl, HB.out⟩
end Go.Proofs.YthdkbjbhjfiaiaaGreatDoor.ti
