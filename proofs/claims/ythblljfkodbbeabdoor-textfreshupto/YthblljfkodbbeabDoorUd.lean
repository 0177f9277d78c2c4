import Derived.Test.YthblljfkodbbeabDoorUc
namespace Go.Proofs.YthblljfkodbbeabDoor.ud
open Go.RowKit Go.PlainAid
open Go.Proofs.YthblljfkodbbeabDoor.ta Go.Proofs.YthblljfkodbbeabDoor.tb Go.Proofs.YthblljfkodbbeabDoor.tc Go.Proofs.YthblljfkodbbeabDoor.td Go.Proofs.YthblljfkodbbeabDoor.te Go.Proofs.YthblljfkodbbeabDoor.tf Go.Proofs.YthblljfkodbbeabDoor.tg Go.Proofs.YthblljfkodbbeabDoor.th Go.Proofs.YthblljfkodbbeabDoor.ti Go.Proofs.YthblljfkodbbeabDoor.tj Go.Proofs.YthblljfkodbbeabDoor.tk Go.Proofs.YthblljfkodbbeabDoor.ue Go.Proofs.YthblljfkodbbeabDoor.ub Go.Proofs.YthblljfkodbbeabDoor.uc
set_option linter.unusedVariables false

theorem eUn1 : ∀ args w, (callFunc 35 args).run Tryd.prog w = .ok (.enter 35 args) w := enters_of Tryd.func35 (by kernel_rfl) rfl
theorem eUn2 : ∀ args w, (callFunc 36 args).run Tryd.prog w = .ok (.enter 36 args) w := enters_of Tryd.func36 (by kernel_rfl) rfl
theorem flush48a (v : Int) : flush 8 (0 + 4) (0 * 2 ^ 4 + v) (0 + 4) = ([], v, 4) := by simp [flush]
theorem flush48b (d v : Int) : flush 8 (4 + 4) (d * 2 ^ 4 + v) (4 + 4) = ([d * 16 + v], 0, 0) := by simp [flush]

section
variable {w0 : World} {B bo C bh bc : Nat} {cs : List (Nat × Obj)}
def hU (σ : List Int × Nat × Int) : Int := if σ.2.1 = 1 then σ.2.2 else 0
def cU (σ : List Int × Nat × Int) : Nat := if σ.2.1 = 1 then 4 else 0
def StU (w0 : World) (B bo C bh bc ba : Nat) (cs : List (Nat × Obj)) (σ : List Int × Nat × Int) (w : World) : Prop := St w0 B bo C bh bc ((ba, bx 3 (.int .i64 (σ.2.1 : Nat))) :: cs) σ.1 (hU σ) (cU σ : Nat) w
def Post (w0 : World) (B bo C bh bc ba : Nat) (cs : List (Nat × Obj)) (o : Option (List Int × Nat × Int)) (e : Ending) (w' : World) : Prop :=
  (∃ σ, o = some σ ∧ e = .returned (.bool true) ∧ StU w0 B bo C bh bc ba cs σ w') ∨ (o = none ∧ e = .returned (.bool false) ∧ Below B w0 w')

-- one byte read
set_option maxHeartbeats 1600000 in
theorem unescape2 (ba bd bv bj bf bt' bg : Nat) (σ : List Int × Nat × Int) (b : Int) (b0 : 0 ≤ b) (b1 : b < 256) (w : World) (s : Hid (StU w0 B bo C bh bc ba cs σ w)) (haw : σ.2.1 ≤ 2) (hd : 0 ≤ σ.2.2 ∧ σ.2.2 < 16) (hr : σ.1.length < C) (hCm : C ≤ 281474976710656)
    (hlo : B ≤ ba) (hba : ∀ x ∈ cs, x.1 ≠ ba) (md : (bd, bx 38 (rdF bv bj)) ∈ cs)
    (mv : (bv, .cells (row (valK AUP AUP.length)) 44 (0, 0)) ∈ cs) (mj : (bj, bx 40 (rgF bh bf bc bt' bg)) ∈ cs) (mf : (bf, bx 3 (.int .i64 (4 : Nat))) ∈ cs) (mt : (bt', bx 3 (.int .i64 8)) ∈ cs) (mg : (bg, bx 40 (.func (.func 35) #[] #[.pointer (some ⟨bo, 0, none⟩)])) ∈ cs) :
    Calls Tryd.prog 36 #[.int .u8 b, .pointer (some ⟨ba, 0, none⟩), .pointer (some ⟨bd, 0, none⟩), .pointer (some ⟨bo, 0, none⟩)] w fun e w' => Post w0 B bo C bh bc ba cs (ust σ b) e w' := by
  obtain ⟨out, a, d⟩ := σ
  simp only [] at haw hd hr
  have ca : w.cell? ⟨ba, 0, none⟩ = some (.int .i64 (a : Nat)) := s.out.at List.mem_cons_self
  have ha0 := s.out.boxes _ List.mem_cons_self
  have fa : w.frozen? ⟨ba, 0, none⟩ = false := Boxed.frozen (t := 3) ha0.1
  have eR := eRead1
  have RS : Hid (∀ (n : Nat) (p : List Int) (h : Int) (c : Nat) (w' : World), 0 ≤ h → h < 2 ^ c → c < 8 → p.length + (flush 8 (c + 4) (h * 2 ^ 4 + (vl AUP b - 1)) (c + 4)).1.length ≤ C → St w0 B bo C bh bc ((ba, bx 3 (.int .i64 (n : Nat))) :: cs) p h c w' →
      Calls Tryd.prog 39 #[.int .u8 b, .pointer (some ⟨bv, 0, none⟩), .pointer (some ⟨bj, 0, none⟩)] w' fun e w'' => (vl AUP b = 0 ∧ e = .returned (.bool false) ∧ w'' = w') ∨ (vl AUP b ≠ 0 ∧ e = .returned (.bool true) ∧ St w0 B bo C bh bc ((ba, bx 3 (.int .i64 (n : Nat))) :: cs) (p ++ (flush 8 (c + 4) (h * 2 ^ 4 + (vl AUP b - 1)) (c + 4)).1) (flush 8 (c + 4) (h * 2 ^ 4 + (vl AUP b - 1)) (c + 4)).2.1 (flush 8 (c + 4) (h * 2 ^ 4 + (vl AUP b - 1)) (c + 4)).2.2 w'')) := fun n p h c w' h0 h1 hc hl s' =>
    read_sign AUP 4 (by omega) aup bv bj bf bt' bg 35 C _ eUn1 (List.mem_cons_of_mem _ mv) (List.mem_cons_of_mem _ mj) (List.mem_cons_of_mem _ mf) (List.mem_cons_of_mem _ mt) (List.mem_cons_of_mem _ mg) (fun q h c x w3 x0 x1 hq sq => unescape1 q h c x w3 sq (.inl hq)) p h b c h0 h1 hc b0 b1 w' s' hl
  rcases (by omega : a = 0 ∨ a = 1 ∨ a = 2) with rfl | rfl | rfl
  · -- no digit is awaited
    by_cases h37 : b = 37
    · subst h37
      have HE : Hid (ust (out, 0, d) 37 = some (out, 2, 0)) := by show _ = _; simp [ust]
      have S2 : Hid (StU w0 B bo C bh bc ba cs (out, 2, 0) (w.setCell ⟨ba, 0, none⟩ (.int .i64 2))) := St.setHead (v := .int .i64 ((0 : Nat) : Int)) s.out hlo hba (.int .i64 2)
      clear RS
      go_enter Tryd.func36, Tryd.ntmps36
      go_wp2
      go_ret
      exact .inl ⟨_, HE.out, rfl, S2.out⟩
    · have h37' : (b == 37) = false := beq_eq_false_iff_ne.2 h37
      have HE : Hid (ust (out, 0, d) b = if pl b = true then some (out ++ [b], 0, 0) else none) := by show _ = _; simp [ust, h37]
      have P : Hid (∀ w', Calls _ _ _ _ _) := fun w' => plain b w'
      obtain ⟨g, cap, hbox, hC, how⟩ := s.out.out
      have HB : Hid (Boxed w bo 39 (.slice (some ⟨g, 0, none⟩) out.length cap)) := hbox
      have HO : Hid (World.ownsRow _ _ _ _ _ _ _) := how
      have hcell := hbox.cell
      have hbase := s.out.base
      have HR : Hid (out.length < cap ∨ out.length + 1 ≤ 140737488355328) := .inl (by omega)
      have HC : Hid (C ≤ cap) := hC
      clear hbox how hC RS
      obtain ⟨n, HN⟩ : ∃ n, Hid (out.length = n) := ⟨_, rfl⟩
      simp only [HN.out] at HB HO HR hcell
      go_enter Tryd.func36, Tryd.ntmps36
      go_wp2_with (at_builtin; refine wpList_append_c rfl (.tmp 29) (.tmp 31) rfl B g n cap _ rfl (HO.out.alloc _) (.int .u8 b) rfl ⟨w.heap.size, 0, none⟩ 1 rfl (new_cell _ _ _) HR.out (by simp; omega) ?_; intro g' cap' w2 hown' hgr hcap; have hA := St.appended s.out g cap g' cap' (.cells #[.int .u8 b] 5) b (by simp only [HN.out]; exact HB.out) HC.out (by simp only [HN.out]; exact HO.out) (by simp only [HN.out]; exact hown') hgr hcap; have hb1 := hA.1; simp only [HN.out] at hb1; have hc1 := hb1.cell; have hf1 := hb1.frozen; have S2 := hA.2; simp only [HN.out] at S2; have HS2 : Hid (St _ _ _ _ _ _ _ _ _ _ _) := S2; clear S2 hA hb1 hown' hgr hcap)
      refine (P.out _).mono ?_
      rintro e w3 ⟨rfl, hw3⟩
      have HW3 : Hid (w3 = _) := hw3
      clear hw3
      by_cases hp : pl b = true
      · simp only [hp]
        go_wp2
        go_ret
        refine .inl ⟨_, HE.out.trans (if_pos hp), rfl, ?_⟩
        rw [HW3.out]
        exact HS2.out
      · have hp' : pl b = false := by simpa using hp
        simp only [hp']
        go_wp2
        go_ret
        refine .inr ⟨HE.out.trans (if_neg hp), rfl, ?_⟩
        rw [HW3.out]
        exact HS2.out.below
  · -- the second digit
    have HE : Hid (ust (out, 1, d) b = if vl AUP b = 0 then none else if pl (d * 16 + (vl AUP b - 1)) = true then none else some (out ++ [d * 16 + (vl AUP b - 1)], 0, 0)) := by show _ = _; simp [ust]
    have S1 : Hid (St w0 B bo C bh bc ((ba, bx 3 (.int .i64 (0 : Nat))) :: cs) out d (4 : Nat) (w.setCell ⟨ba, 0, none⟩ (.int .i64 0))) := St.setHead (v := .int .i64 ((1 : Nat) : Int)) s.out hlo hba (.int .i64 ((0 : Nat) : Int))
    have R1 : Hid (Calls _ _ _ _ _) := RS.out 0 out d 4 _ hd.1 (by have := hd.2; simpa using this) (by omega) (by rw [flush48b]; simp; omega) S1.out
    rw [flush48b] at R1
    have hdg : (w.setCell ⟨ba, 0, none⟩ (.int .i64 0)).cell? ⟨bd, 0, none⟩ = some (rdF bv bj) := S1.out.at (List.mem_cons_of_mem _ md)
    unfold rdF at hdg
    have HB1 : Hid (Below B w0 (w.setCell ⟨ba, 0, none⟩ (.int .i64 0))) := S1.out.below
    have P : Hid (∀ w', Calls _ _ _ _ _) := fun w' => plain (d * 16 + (vl AUP b - 1)) w'
    clear RS
    go_enter Tryd.func36, Tryd.ntmps36
    go_wp2_with fail
    refine R1.out.mono ?_
    rintro e w1 (⟨hv, rfl, hw1⟩ | ⟨hv, rfl, h1⟩)
    · have HW1 : Hid (w1 = _) := hw1
      clear hw1 hdg
      have HV : Hid _ := HE.out.trans (if_pos hv)
      go_wp2
      go_ret
      exact .inr ⟨HV.out, rfl, by rw [HW1.out]; exact HB1.out⟩
    · have HV : Hid _ := HE.out.trans (if_neg hv)
      have HS1 : Hid (St _ _ _ _ _ _ _ _ _ _ _) := h1
      have c1 : w1.cell? ⟨ba, 0, none⟩ = some (.int .i64 0) := h1.at List.mem_cons_self
      obtain ⟨g, cap, hbox, hC, how⟩ := h1.out
      generalize d * 16 + (vl AUP b - 1) = x at *
      have hlx : (out ++ [x]).length = out.length + 1 := by simp
      rw [hlx] at hbox how
      have hcell := hbox.cell
      have hcx : w1.cell? ⟨g, out.length, none⟩ = some (.int .u8 x) := by
        have := how.cells (g := g) rfl out.length (.int .u8 x) (by rw [List.map_append, List.getElem?_append_right (by simp)]; simp)
        rwa [Addr.add_mid, Nat.zero_add] at this
      clear h1 hbox how hC hdg R1 hlx hv
      obtain ⟨n, HN⟩ : ∃ n, Hid (out.length = n) := ⟨_, rfl⟩
      simp only [HN.out] at hcell hcx
      have hn9 : n < 281474976710656 := by rw [← HN.out]; omega
      have i1 : ((n : Int) + 1 - 1) = n := by omega
      have i2 : (n : Int) < (n : Int) + 1 := by omega
      have i3 : n + 1 - 1 = n := by omega
      go_wp2_with fail
      refine (P.out _).mono ?_
      rintro e w3 ⟨rfl, rfl⟩
      by_cases hp : pl x = true
      · simp only [hp]
        go_wp2
        go_ret
        exact .inr ⟨HV.out.trans (if_pos hp), rfl, HS1.out.below⟩
      · have hp' : pl x = false := by simpa using hp
        simp only [hp']
        go_wp2
        go_ret
        exact .inl ⟨_, HV.out.trans (if_neg hp), rfl, HS1.out⟩
  · -- the first digit
    have HE : Hid (ust (out, 2, d) b = if vl AUP b = 0 then none else some (out, 1, vl AUP b - 1)) := by show _ = _; simp [ust]
    have S1 : Hid (St w0 B bo C bh bc ((ba, bx 3 (.int .i64 (1 : Nat))) :: cs) out 0 (0 : Nat) (w.setCell ⟨ba, 0, none⟩ (.int .i64 1))) := St.setHead (v := .int .i64 ((2 : Nat) : Int)) s.out hlo hba (.int .i64 ((1 : Nat) : Int))
    have R1 : Hid (Calls _ _ _ _ _) := RS.out 1 out 0 0 _ (by omega) (by omega) (by omega) (by rw [flush48a]; simp; omega) S1.out
    rw [flush48a, List.append_nil] at R1
    have hdg : (w.setCell ⟨ba, 0, none⟩ (.int .i64 1)).cell? ⟨bd, 0, none⟩ = some (rdF bv bj) := S1.out.at (List.mem_cons_of_mem _ md)
    unfold rdF at hdg
    have HB1 : Hid (Below B w0 (w.setCell ⟨ba, 0, none⟩ (.int .i64 1))) := S1.out.below
    clear RS
    go_enter Tryd.func36, Tryd.ntmps36
    go_wp2_with fail
    refine R1.out.mono ?_
    rintro e w1 (⟨hv, rfl, hw1⟩ | ⟨hv, rfl, h1⟩)
    · have HW1 : Hid (w1 = _) := hw1
      clear hw1 hdg
      have HV : Hid _ := HE.out.trans (if_pos hv)
      go_wp2
      go_ret
      exact .inr ⟨HV.out, rfl, by rw [HW1.out]; exact HB1.out⟩
    · have HV : Hid _ := HE.out.trans (if_neg hv)
      have HS1 : Hid (St _ _ _ _ _ _ _ _ _ _ _) := h1
      have c1 : w1.cell? ⟨ba, 0, none⟩ = some (.int .i64 1) := h1.at List.mem_cons_self
      clear h1 hdg R1 hv
      go_wp2
      go_ret
      exact .inl ⟨_, HV.out, rfl, HS1.out⟩
end

-- the values' box, the row and the box of the row
def baseV (w : World) (VL : List Int) (C : Nat) : World := ((w.alloc (.cells (row VL) 44)).alloc (.cells (row (List.replicate C 0)) 5)).alloc (bx 39 (.slice (some ⟨w.heap.size + 1, 0, none⟩) 0 C))
theorem baseV_size (w : World) (VL : List Int) (C : Nat) : (baseV w VL C).heap.size = w.heap.size + 3 := by simp [baseV]
theorem baseV_v (w : World) (VL : List Int) (C : Nat) : (baseV w VL C).heap[w.heap.size]? = some (.cells (row VL) 44 (0, 0)) := by
  unfold baseV
  rw [heap_alloc_old _ _ (by simp <;> omega), heap_alloc_old _ _ (by simp), heap_alloc_new]
theorem baseV_out (w : World) (VL : List Int) (C : Nat) : Boxed (baseV w VL C) (w.heap.size + 2) 39 (.slice (some ⟨w.heap.size + 1, 0, none⟩) 0 C) := by
  unfold baseV
  have := heap_alloc_new ((w.alloc (.cells (row VL) 44)).alloc (.cells (row (List.replicate C 0)) 5)) (bx 39 (.slice (some ⟨w.heap.size + 1, 0, none⟩) 0 C))
  rw [size1, size1] at this
  exact this
theorem baseV_own (w : World) (VL : List Int) (C : Nat) (hC : C ≤ 281474976710656) : (baseV w VL C).ownsRow w.heap.size 5 1 (.slice (some ⟨w.heap.size + 1, 0, none⟩) 0 C) 0 [] := by
  unfold baseV
  have := World.ownsRow_made (base := w.heap.size) (e := 5) (size := 1) (w.alloc (.cells (row VL) 44)) (row (List.replicate C 0)) C (by simp) (by unfold maxLen; omega) (by rw [row_size]; simp)
  rw [size1] at this
  exact this.alloc _
theorem baseV_below (w : World) (VL : List Int) (C : Nat) : Below w.heap.size w (baseV w VL C) := by
  unfold baseV
  exact (((Below.refl _ _).alloc (Nat.le_refl _) _).alloc (by simp) _).alloc (by simp <;> omega) _
theorem srW_size (w : World) (l : List Int) (f : Nat) (give : Value) : (srW w l f give).heap.size = w.heap.size + 1 + 6 := by
  unfold srW
  rw [size1, chain5_size, size1]
theorem bs_37 : bs (⟨#[37]⟩ : ByteArray) = [37] := by decide +kernel
theorem readV_nil : readV [] = .tuple #[.string ByteArray.empty, .int .i64 0] := rfl

set_option maxHeartbeats 3200000 in
set_option maxRecDepth 100000 in
theorem unescape (s : ByteArray) (hs : s.size ≤ 281474976710656) (w : World) :
    Calls Tryd.prog 27 #[.string s, .agg (row (valK AUP AUP.length))] w fun e w' => e = .returned (unV s) ∧ Below w.heap.size w w' := by
  have hmf : ∀ (fn : Fn) (first cap : Array Value) (w : World), (Instr.makeFunc fn first cap).run Tryd.prog w = .ok (.func fn first cap) w := fun _ _ _ _ => rfl
  obtain ⟨VL, HVL⟩ : ∃ VL, Hid (valK AUP AUP.length = VL) := ⟨_, rfl⟩
  have hvl : VL.length = 256 := by rw [← HVL.out, valK_length]
  rw [HVL.out]
  obtain ⟨R, HR⟩ : ∃ R, Hid (unV s = R) := ⟨_, rfl⟩
  rw [HR.out]
  have HV : Hid ((Value.agg (row VL)).cells = row VL) := agg_cells VL
  have HB0 : Hid (Below w.heap.size w (w.alloc (.cells (row VL) 44))) := (Below.refl _ _).alloc (Nat.le_refl _) _
  have HL0 : Hid ((w.alloc (.cells (row VL) 44)).heap[w.heap.size]? = some (.cells (row VL) 44 (0, 0))) := heap_alloc_new w _
  by_cases h37 : bs s = [37]
  · have he : s = ⟨#[37]⟩ := bs_inj (h37.trans bs_37.symm)
    have HE : Hid (R = .tuple #[.string ByteArray.empty, .int .i64 0]) := by show _ = _; rw [← HR.out]; unfold unV unP; rw [if_pos h37]; rfl
    clear h37 HR
    subst he
    generalize row VL = V at *
    go_enter Tryd.func27, Tryd.ntmps27
    go_wp2_with (refine wpList_box rfl 44 (.tmp 1) rfl V HV.out ?_)
    go_wp2
    go_ret2
    exact ⟨by rw [HE.out]; rfl, HB0.out⟩
  · have hne : s ≠ ⟨#[37]⟩ := fun h => h37 (by rw [h]; exact bs_37)
    have hne1 : (s.toList == (⟨#[37]⟩ : ByteArray).toList) = false := by rw [toList_bs]; exact decide_eq_false hne
    have hne2 : (s.toList == [37]) = false := by rw [toList_lit]; exact decide_eq_false hne
    have HU : Hid (R = (match (match urun (bs s) with
      | some (out, 0, _) => if out = [] then none else some out
      | _ => none : Option (List Int)) with
      | some x => readV x
      | none => failV 44)) := by show _ = _; rw [← HR.out]; unfold unV unP; rw [if_neg h37]; rfl
    clear h37 hne HR
    have hmk : ∀ w' : World, (Instr.makeSlice 39 (.int .i64 0) (.int .i64 s.size)).run Tryd.prog w' = .ok (.slice (some ⟨w'.heap.size, 0, none⟩) 0 s.size) (w'.alloc (.cells (row (List.replicate s.size 0)) 5)) := fun w' => make_wide w' s.size hs
    have R1 : Hid (Calls _ _ _ _ _) := signReader VL 4 35 #[.pointer (some ⟨w.heap.size + 2, 0, none⟩)] (baseV w VL s.size)
    have S0 := St.reader w (baseV w VL s.size) w.heap.size (w.heap.size + 2) s.size (w.heap.size + 1) s.size [] VL 4 (.func (.func 35) #[] #[.pointer (some ⟨w.heap.size + 2, 0, none⟩)]) (baseV_below w VL s.size) (by rw [baseV_size]; omega) (by omega)
      (fun x hx => by simp at hx) (baseV_out w VL s.size) (Nat.le_refl _) (baseV_own w VL s.size hs)
    have HLV : Hid ((baseV w VL s.size).heap[w.heap.size]? = some (.cells (row VL) 44 (0, 0))) := baseV_v w VL s.size
    have HI : Hid ((Tryd.prog.info? 44).map (·.size) = some (row VL).size) := by show _ = _; rw [row_size, hvl]; exact info256
    have hsz := srW_size (baseV w VL s.size) VL 4 (.func (.func 35) #[] #[.pointer (some ⟨w.heap.size + 2, 0, none⟩)])
    rw [baseV_size] at S0 R1 hsz
    obtain ⟨W1, HW1⟩ : ∃ W1, Hid (srW (baseV w VL s.size) VL 4 (.func (.func 35) #[] #[.pointer (some ⟨w.heap.size + 2, 0, none⟩)]) = W1) := ⟨_, rfl⟩
    rw [HW1.out] at S0 R1 hsz
    have S1 := St.more (St.more S0 (bx 38 (rdF (w.heap.size + 3) (w.heap.size + 3 + 1 + 5))) (nou8 fbb_ne _ _)) (bx 3 (.int .i64 (0 : Nat))) (nou8 int_ne _ _)
    rw [size1] at S1
    obtain ⟨cs, hcs⟩ : ∃ cs, (W1.heap.size, bx 38 (rdF (w.heap.size + 3) (w.heap.size + 3 + 1 + 5))) :: (w.heap.size + 3 + 1 + 5, bx 40 (rgF (w.heap.size + 3 + 1 + 3) (w.heap.size + 3 + 1) (w.heap.size + 3 + 1 + 4) (w.heap.size + 3 + 1 + 1) (w.heap.size + 3 + 1 + 2))) :: (w.heap.size + 3 + 1, bx 3 (.int .i64 (4 : Nat))) :: (w.heap.size + 3 + 1 + 1, bx 3 (.int .i64 8)) :: (w.heap.size + 3 + 1 + 2, bx 40 (.func (.func 35) #[] #[.pointer (some ⟨w.heap.size + 2, 0, none⟩)])) :: (w.heap.size + 3, .cells (row VL) 44 (0, 0)) :: [] = cs := ⟨_, rfl⟩
    rw [hcs] at S1
    have md : (W1.heap.size, bx 38 (rdF (w.heap.size + 3) (w.heap.size + 3 + 1 + 5))) ∈ cs := by rw [← hcs]; simp
    have mj : (w.heap.size + 3 + 1 + 5, bx 40 (rgF (w.heap.size + 3 + 1 + 3) (w.heap.size + 3 + 1) (w.heap.size + 3 + 1 + 4) (w.heap.size + 3 + 1 + 1) (w.heap.size + 3 + 1 + 2))) ∈ cs := by rw [← hcs]; simp
    have mf : (w.heap.size + 3 + 1, bx 3 (.int .i64 (4 : Nat))) ∈ cs := by rw [← hcs]; simp
    have mt : (w.heap.size + 3 + 1 + 1, bx 3 (.int .i64 8)) ∈ cs := by rw [← hcs]; simp
    have mg : (w.heap.size + 3 + 1 + 2, bx 40 (.func (.func 35) #[] #[.pointer (some ⟨w.heap.size + 2, 0, none⟩)])) ∈ cs := by rw [← hcs]; simp
    have mv : (w.heap.size + 3, .cells (row (valK AUP AUP.length)) 44 (0, 0)) ∈ cs := by rw [HVL.out, ← hcs]; simp
    have hba : ∀ x ∈ cs, x.1 ≠ W1.heap.size + 1 := by
      intro x hx
      rw [← hcs] at hx
      simp only [List.mem_cons, List.not_mem_nil, or_false] at hx
      rcases hx with rfl | rfl | rfl | rfl | rfl | rfl <;> simp <;> omega
    clear hcs S0
    have T1 : Hid (Calls Tryd.prog 19 #[.string s, .func (.func 36) #[] #[.pointer (some ⟨W1.heap.size + 1, 0, none⟩), .pointer (some ⟨W1.heap.size, 0, none⟩), .pointer (some ⟨w.heap.size + 2, 0, none⟩)]] ((W1.alloc (bx 38 (rdF (w.heap.size + 3) (w.heap.size + 3 + 1 + 5)))).alloc (bx 3 (.int .i64 (0 : Nat)))) fun e w' =>
        (e = .returned (.bool true) ∧ ∃ σ, urun (btL s s.size) = some σ ∧ StU w w.heap.size (w.heap.size + 2) s.size (w.heap.size + 3 + 1 + 3) (w.heap.size + 3 + 1 + 4) (W1.heap.size + 1) cs σ w') ∨ (e = .returned (.bool false) ∧ urun (bs s) = none ∧ Below w.heap.size w w')) := by
      refine through s (by omega) 36 _ eUn2 (fun k w' => ∃ σ, urun (btL s k) = some σ ∧ StU w w.heap.size (w.heap.size + 2) s.size (w.heap.size + 3 + 1 + 3) (w.heap.size + 3 + 1 + 4) (W1.heap.size + 1) cs σ w') (fun w' => urun (bs s) = none ∧ Below w.heap.size w w') ?_ _ ⟨([], 0, 0), rfl, S1⟩
      rintro k w' hk ⟨σ, hσ, sk⟩
      have b0 := bt_nonneg s k
      have b1 := bt_le s k
      have iv := urun_inv s k σ hσ
      have hln := iv.len
      rw [btL_length] at hln
      refine (unescape2 (W1.heap.size + 1) W1.heap.size (w.heap.size + 3) (w.heap.size + 3 + 1 + 5) (w.heap.size + 3 + 1) (w.heap.size + 3 + 1 + 1) (w.heap.size + 3 + 1 + 2) σ (bt s k) b0 (by omega) w' sk iv.aw iv.d (by omega) hs (by omega) hba md mv mj mf mt mg).mono ?_
      rintro e w2 (⟨τ, h1, h2, h3⟩ | ⟨h1, h2, h3⟩)
      · refine .inl ⟨h2, τ, ?_, h3⟩
        rw [btL_succ, urun_snoc, hσ]
        exact h1
      · refine .inr ⟨h2, ?_, h3⟩
        apply urun_stop s (k + 1) hk
        rw [btL_succ, urun_snoc, hσ]
        exact h1
    clear S1 md mj mf mt mg mv
    unfold rdF at T1 R1
    have HM : Hid (btL s s.size = bs s) := rfl
    rw [HM.out] at T1
    unfold baseV at HLV R1
    clear hsz hba hvl
    generalize row VL = V at *
    go_enter Tryd.func27, Tryd.ntmps27
    go_wp2_with (first | (refine wpList_box rfl 44 (.tmp 1) rfl V HV.out ?_) | (refine wpList_load_row rfl 44 (.tmp 3) rfl w.heap.size rfl 44 V (0, 0) _ HLV.out Tryd.underlying44 rfl HI.out ?_))
    refine R1.out.mono ?_
    rintro e w1 ⟨rfl, hw1⟩
    obtain rfl : w1 = W1 := hw1
    clear R1 HW1 hmk HLV HI HV HL0 HB0
    go_wp2_with fail
    refine T1.out.mono ?_
    rintro e w4 (⟨rfl, σ, hσ, hj⟩ | ⟨rfl, hn, hb⟩)
    · obtain ⟨out, a, d⟩ := σ
      rw [hσ] at HU
      have ca : w4.cell? ⟨w1.heap.size + 1, 0, none⟩ = some (.int .i64 (a : Nat)) := St.at hj List.mem_cons_self
      obtain ⟨g, cap, hbox, _, how⟩ := hj.out
      have hc4 : w4.cell? ⟨w.heap.size + 2, 0, none⟩ = some (.slice (some ⟨g, 0, none⟩) out.length cap) := hbox.cell
      have hcv := own_conv w4 w.heap.size (.slice (some ⟨g, 0, none⟩) out.length cap) out out.length rfl how
      have HB : Hid (Below w.heap.size w w4) := hj.below
      clear hj hbox how T1 hσ
      cases a with
      | zero =>
        by_cases ho : out = []
        · subst ho
          have HE : Hid (R = failV 44) := HU.out
          unfold failV at HE
          clear hcv
          go_wp2
          go_ret2
          exact ⟨by rw [HE.out]; rfl, HB.out⟩
        · have HE : Hid (R = readV out) := by have := HU.out; simp only [if_neg ho] at this; exact this
          unfold readV at HE
          have hlp : 0 < out.length := by cases out with
            | nil => exact absurd rfl ho
            | cons => simp
          obtain ⟨n, HN⟩ : ∃ n, Hid (out.length = n) := ⟨_, rfl⟩
          rw [HN.out] at hc4 hcv hlp
          have hb0 : ((n : Int) == 0) = false := beq_eq_false_iff_ne.2 (by omega)
          generalize str out = X at *
          clear HU ho
          go_wp2
          go_ret2
          exact ⟨by rw [HE.out]; rfl, HB.out⟩
      | succ a =>
        have HE : Hid (R = failV 44) := HU.out
        unfold failV at HE
        have hgt : ((a + 1 : Nat) : Int) > 0 := by omega
        obtain ⟨z, HZ⟩ : ∃ z : Int, Hid (((a + 1 : Nat) : Int) = z) := ⟨_, rfl⟩
        rw [HZ.out] at ca hgt
        clear HU hcv
        go_wp2
        go_ret2
        exact ⟨by rw [HE.out]; rfl, HB.out⟩
    · rw [hn] at HU
      have HE : Hid (R = failV 44) := HU.out
      unfold failV at HE
      have HB : Hid (Below w.heap.size w w4) := hb
      clear hb HU T1 hn
      go_wp2
      go_ret2
      exact ⟨by rw [HE.out]; rfl, HB.out⟩

set_option maxHeartbeats 800000 in
theorem unesc (s : ByteArray) (hs : s.size ≤ 281474976710656) (w : World) :
    Calls Tryd.prog 9 #[.string s] w fun e w' => e = .returned (unV s) ∧ Below w.heap.size w w' := by
  have H1 : Hid (Calls _ _ _ _ _) := valuesOf UP (by decide) w
  have H2 : Hid (∀ w, Calls _ _ _ _ _) := fun w => unescape s hs w
  rw [show UP.size = AUP.length from rfl, bsUP] at H1
  unfold UP at H1
  obtain ⟨q, e, HE⟩ : ∃ q e, Hid (unV s = .tuple #[.string q, .int .i64 e]) := by
    unfold unV
    cases unP (bs s) with
    | some x => exact ⟨_, _, rfl⟩
    | none => exact ⟨_, _, rfl⟩
  rw [HE.out] at H2 ⊢
  generalize row (valK AUP AUP.length) = V at *
  go_enter Tryd.func9, Tryd.ntmps9
  go_wp2_with fail
  refine H1.out.mono ?_
  rintro e w1 ⟨rfl, hb1⟩
  have B1 : Hid (Below _ _ _) := hb1
  clear hb1 H1
  go_wp2_with fail
  refine (H2.out _).mono ?_
  rintro e w2 ⟨rfl, hb2⟩
  have B2 : Hid (Below w.heap.size w w2) := B1.out.trans (hb2.mono B1.out.size)
  clear hb2 H2
  go_wp2
  go_ret2
  exact ⟨rfl, B2.out⟩
end Go.Proofs.YthblljfkodbbeabDoor.ud
