import Derived.Test.YthdkbjbhjfiaiaaGreatDoorTf
import Derived.Shelf.Abstract
namespace Go.Proofs.YthdkbjbhjfiaiaaGreatDoor.tg
open Go.RowKit Go.PlainAid
open Go.Proofs.YthdkbjbhjfiaiaaGreatDoor.ta Go.Proofs.YthdkbjbhjfiaiaaGreatDoor.tb Go.Proofs.YthdkbjbhjfiaiaaGreatDoor.tc Go.Proofs.YthdkbjbhjfiaiaaGreatDoor.td Go.Proofs.YthdkbjbhjfiaiaaGreatDoor.te Go.Proofs.YthdkbjbhjfiaiaaGreatDoor.tf
set_option linter.unusedVariables false
set_option maxRecDepth 4000

theorem flush_inv (t : Nat) (ht : 1 ≤ t) (n : Nat) : ∀ (h : Int) (c : Nat), 0 ≤ h → h < 2 ^ c → c ≤ n → 0 ≤ (flush t n h c).2.1 ∧ (flush t n h c).2.1 < 2 ^ (flush t n h c).2.2 ∧ (flush t n h c).2.2 < t ∧ c = t * (flush t n h c).1.length + (flush t n h c).2.2 ∧ In (2 ^ t) (flush t n h c).1 := by
  induction n with
  | zero => intro h c h0 h1 hc; rw [flush]; exact ⟨h0, h1, by simp; omega, by simp, fun x hx => by simp at hx⟩
  | succ n ih =>
    intro h c h0 h1 hc
    rw [flush]
    by_cases hge : t ≤ c
    · rw [if_pos hge]
      obtain ⟨i1, i2, i3, i4, i5⟩ := ih (h % 2 ^ (c - t)) (c - t) (Int.emod_nonneg _ (Int.ne_of_gt (pow2_pos _))) (Int.emod_lt_of_pos _ (pow2_pos _)) (by omega)
      refine ⟨i1, i2, i3, ?_, ?_⟩
      · simp only [List.length_cons, Nat.mul_add, Nat.mul_one]; omega
      · intro x hx
        rcases List.mem_cons.1 hx with rfl | hx
        · refine ⟨Int.ediv_nonneg h0 (Int.le_of_lt (pow2_pos _)), ?_⟩
          apply Int.ediv_lt_of_lt_mul (pow2_pos _)
          rw [← Int.pow_add, show t + (c - t) = c by omega]
          exact h1
        · exact i5 x hx
    · rw [if_neg hge]
      exact ⟨h0, h1, by simp; omega, by simp, fun x hx => by simp at hx⟩

theorem join_lt (h v : Int) (c f : Nat) (h0 : 0 ≤ h) (hh : h < 2 ^ c) (v0 : 0 ≤ v) (hv : v < 2 ^ f) : 0 ≤ h * 2 ^ f + v ∧ h * 2 ^ f + v < 2 ^ (c + f) := by
  have h1 : 0 ≤ h * 2 ^ f := Int.mul_nonneg h0 (Int.le_of_lt (pow2_pos f))
  have h2 : h * 2 ^ f + 2 ^ f ≤ 2 ^ c * 2 ^ f := by
    have := Int.mul_le_mul_of_nonneg_right (a := h + 1) (b := 2 ^ c) (c := 2 ^ f) (by omega) (Int.le_of_lt (pow2_pos f))
    rw [Int.add_mul, Int.one_mul] at this
    exact this
  rw [Int.pow_add]
  exact ⟨by omega, by omega⟩

structure MInv (f t : Nat) (k : Nat) (σ : List Int × Int × Nat) : Prop where
  h0 : 0 ≤ σ.2.1
  h1 : σ.2.1 < 2 ^ σ.2.2
  ct : σ.2.2 < t
  len : f * k = t * σ.1.length + σ.2.2
  inn : In (2 ^ t) σ.1
theorem stp_inv (f t : Nat) (ht : 1 ≤ t) (k : Nat) (σ : List Int × Int × Nat) (v : Int) (i : MInv f t k σ) (v0 : 0 ≤ v) (hv : v < 2 ^ f) : MInv f t (k + 1) (stp f t σ v) := by
  obtain ⟨j0, j1⟩ := join_lt σ.2.1 v σ.2.2 f i.h0 i.h1 v0 hv
  obtain ⟨k1, k2, k3, k4, k5⟩ := flush_inv t ht (σ.2.2 + f) _ _ j0 j1 (Nat.le_refl _)
  refine ⟨k1, k2, k3, ?_, ?_⟩
  · have := i.len
    simp only [stp, List.length_append, Nat.mul_add, Nat.mul_one]
    omega
  · exact i.inn.app k5
theorem mach_inv (f t : Nat) (ht : 1 ≤ t) (q : ByteArray) (hf : f = 8) (k : Nat) : MInv f t k (mach f t (btL q k)) := by
  subst hf
  induction k with
  | zero => exact ⟨by simp [mach, btL], by simp [mach, btL], ht, by simp [mach, btL], fun x hx => by simp [mach, btL] at hx⟩
  | succ k ih =>
    rw [btL_succ, mach_snoc]
    have h0 := bt_nonneg q k
    have h1 := bt_le q k
    exact stp_inv 8 t ht k _ _ ih h0 (by omega)
theorem machL_inv (f t : Nat) (ht : 1 ≤ t) (l : List Int) (hl : In (2 ^ f) l) (k : Nat) (hk : k ≤ l.length) : MInv f t k (mach f t (l.take k)) := by
  induction k with
  | zero => exact ⟨by simp [mach], by simp [mach], ht, by simp [mach], fun x hx => by simp [mach] at hx⟩
  | succ k ih =>
    rw [List.take_succ_eq_append_getElem (by omega), mach_snoc]
    exact stp_inv f t ht k _ _ (ih (by omega)) (hl _ (List.getElem_mem _)).1 (hl _ (List.getElem_mem _)).2

theorem eRegroup1 : ∀ args w, (callFunc 139 args).run Tryz.prog w = .ok (.enter 139 args) w := enters_of Tryz.func139 (by kernel_rfl) rfl
theorem eInSigns1 : ∀ args w, (callFunc 122 args).run Tryz.prog w = .ok (.enter 122 args) w := enters_of Tryz.func122 (by kernel_rfl) rfl
theorem eInSigns2 : ∀ args w, (callFunc 123 args).run Tryz.prog w = .ok (.enter 123 args) w := enters_of Tryz.func123 (by kernel_rfl) rfl

def rgF (bh bf bc bt' bg : Nat) : Value := .func (.func 139) #[] #[.pointer (some ⟨bh, 0, none⟩), .pointer (some ⟨bf, 0, none⟩), .pointer (some ⟨bc, 0, none⟩), .pointer (some ⟨bt', 0, none⟩), .pointer (some ⟨bg, 0, none⟩)]

section
variable {w0 : World} {B bo C bh bc : Nat} {cs : List (Nat × Obj)}
-- write(b); return true
set_option maxHeartbeats 800000 in
theorem inSigns2 (bw bf bt' bg : Nat) (v : Int) (w : World) (R : World → Prop) (hc : w.cell? ⟨bw, 0, none⟩ = some (rgF bh bf bc bt' bg))
    (hr : Calls Tryz.prog 139 #[.int .u8 v, .pointer (some ⟨bh, 0, none⟩), .pointer (some ⟨bf, 0, none⟩), .pointer (some ⟨bc, 0, none⟩), .pointer (some ⟨bt', 0, none⟩), .pointer (some ⟨bg, 0, none⟩)] w fun e w' => e = .returned (.tuple #[]) ∧ R w') :
    Calls Tryz.prog 123 #[.int .u8 v, .pointer (some ⟨bw, 0, none⟩)] w fun e w' => e = .returned (.bool true) ∧ R w' := by
  have HR : Hid (Calls _ _ _ _ _) := hr
  have eR := eRegroup1
  unfold rgF at hc
  clear hr
  go_enter Tryz.func123, Tryz.ntmps123
  go_wp2_with fail
  refine HR.out.mono ?_
  rintro e w1 ⟨rfl, h1⟩
  have H1 : Hid (R w1) := h1
  clear h1
  go_wp2
  go_ret
  exact ⟨rfl, H1.out⟩
end


theorem nou8 {t : TypeId} (h : t ≠ 5) (c : Array Value) (fr : Nat × Nat) : ∀ a fz, Obj.cells c t fr ≠ .cells a 5 fz := fun a fz e => by injection e with _ e2; exact h e2
theorem fb_ne : 153 ≠ 5 := by decide
theorem fbb_ne : 125 ≠ 5 := by decide
theorem str_ne : 9 ≠ 5 := by decide
theorem v_ne : 151 ≠ 5 := by decide
theorem size1 (w : World) (o : Obj) : (w.alloc o).heap.size = w.heap.size + 1 := by simp

-- one box more
theorem St.more {w0 : World} {B bo C bh bc : Nat} {cs : List (Nat × Obj)} {l : List Int} {h c : Int} {w : World} (s : St w0 B bo C bh bc cs l h c w) (o : Obj) (ho : ∀ a fz, o ≠ .cells a 5 fz) : St w0 B bo C bh bc ((w.heap.size, o) :: cs) l h c (w.alloc o) := by
  obtain ⟨g, cap, h1, h2, h3⟩ := s.out
  refine ⟨s.below.alloc s.base o, by have := s.base; rw [size1]; omega, fun x hx => ?_, s.held.alloc o, s.cnt.alloc o, s.lo, s.ne, g, cap, h1.alloc o, h2, h3.alloc o⟩
  rcases List.mem_cons.1 hx with rfl | hx
  · have a1 := h1.lt; have a2 := s.held.lt; have a3 := s.cnt.lt
    exact ⟨heap_alloc_new w o, ho, by show w.heap.size ≠ bo; omega, by show w.heap.size ≠ bh; omega, by show w.heap.size ≠ bc; omega⟩
  · have hx' := s.boxes x hx
    exact ⟨(heap_alloc_old w o (Array.getElem?_eq_some_iff.1 hx'.1).1).trans hx'.1, hx'.2⟩
theorem St.open {w0 : World} {B bo C bh bc : Nat} {cs cs' : List (Nat × Obj)} {l : List Int} {h c : Int} {w : World} (s : St w0 B bo C bh bc cs l h c w) (hsub : ∀ x ∈ cs', x ∈ cs) : St w0 B bo C bh bc cs' l h c w :=
  ⟨s.below, s.base, fun x hx => s.boxes x (hsub x hx), s.held, s.cnt, s.lo, s.ne, s.out⟩

def chain5 (w : World) (f t : Int) (give : Value) : World := ((((w.alloc (bx 3 (.int .i64 f))).alloc (bx 3 (.int .i64 t))).alloc (bx 153 give)).alloc (bx 3 (.int .i64 0))).alloc (bx 3 (.int .i64 0))
theorem chain5_size (w : World) (f t : Int) (give : Value) : (chain5 w f t give).heap.size = w.heap.size + 5 := by simp [chain5]
theorem chain5_old (w : World) (f t : Int) (give : Value) (k : Nat) (h : k < w.heap.size) : (chain5 w f t give).heap[k]? = w.heap[k]? := by
  unfold chain5
  rw [heap_alloc_old _ _ (by simp <;> omega), heap_alloc_old _ _ (by simp <;> omega), heap_alloc_old _ _ (by simp <;> omega), heap_alloc_old _ _ (by simp <;> omega), heap_alloc_old _ _ h]
-- the state behind 'regroup'
theorem St.start (w0 w : World) (B bo C g cap : Nat) (cs : List (Nat × Obj)) (f t : Int) (give : Value) (hb : Below B w0 w) (hB : B ≤ w.heap.size) (hlo : B ≤ bo)
    (hcs : ∀ x ∈ cs, w.heap[x.1]? = some x.2 ∧ (∀ a fz, x.2 ≠ .cells a 5 fz) ∧ x.1 ≠ bo)
    (hout : Boxed w bo 77 (.slice (some ⟨g, 0, none⟩) 0 cap)) (hC : C ≤ cap) (how : w.ownsRow B 5 1 (.slice (some ⟨g, 0, none⟩) 0 cap) 0 []) :
    St w0 B bo C (w.heap.size + 3) (w.heap.size + 4) ((w.heap.size, bx 3 (.int .i64 f)) :: (w.heap.size + 1, bx 3 (.int .i64 t)) :: (w.heap.size + 2, bx 153 give) :: cs) [] 0 0 (chain5 w f t give) := by
  have hbo := hout.lt
  have at0 : (chain5 w f t give).heap[w.heap.size]? = some (bx 3 (.int .i64 f)) := by
    unfold chain5
    rw [heap_alloc_old _ _ (by simp <;> omega), heap_alloc_old _ _ (by simp <;> omega), heap_alloc_old _ _ (by simp <;> omega), heap_alloc_old _ _ (by simp), heap_alloc_new]
  have at1 : (chain5 w f t give).heap[w.heap.size + 1]? = some (bx 3 (.int .i64 t)) := by
    unfold chain5
    rw [heap_alloc_old _ _ (by simp <;> omega), heap_alloc_old _ _ (by simp <;> omega), heap_alloc_old _ _ (by simp)]
    have := heap_alloc_new (w.alloc (bx 3 (.int .i64 f))) (bx 3 (.int .i64 t))
    rwa [size1] at this
  have at2 : (chain5 w f t give).heap[w.heap.size + 2]? = some (bx 153 give) := by
    unfold chain5
    rw [heap_alloc_old _ _ (by simp <;> omega), heap_alloc_old _ _ (by simp)]
    have := heap_alloc_new ((w.alloc (bx 3 (.int .i64 f))).alloc (bx 3 (.int .i64 t))) (bx 153 give)
    rwa [size1, size1] at this
  have at3 : (chain5 w f t give).heap[w.heap.size + 3]? = some (bx 3 (.int .i64 0)) := by
    unfold chain5
    rw [heap_alloc_old _ _ (by simp)]
    have := heap_alloc_new (((w.alloc (bx 3 (.int .i64 f))).alloc (bx 3 (.int .i64 t))).alloc (bx 153 give)) (bx 3 (.int .i64 0))
    rwa [size1, size1, size1] at this
  have at4 : (chain5 w f t give).heap[w.heap.size + 4]? = some (bx 3 (.int .i64 0)) := by
    unfold chain5
    have := heap_alloc_new ((((w.alloc (bx 3 (.int .i64 f))).alloc (bx 3 (.int .i64 t))).alloc (bx 153 give)).alloc (bx 3 (.int .i64 0))) (bx 3 (.int .i64 0))
    rwa [size1, size1, size1, size1] at this
  refine ⟨?_, by rw [chain5_size]; omega, fun x hx => ?_, at3, at4, ⟨hlo, by omega, by omega⟩, ⟨by omega, by omega, by omega⟩, g, cap, (chain5_old w f t give bo hbo).trans hout, hC, ?_⟩
  · unfold chain5
    exact ((((hb.alloc hB _).alloc (by simp <;> omega) _).alloc (by simp <;> omega) _).alloc (by simp <;> omega) _).alloc (by simp <;> omega) _
  · rcases List.mem_cons.1 hx with rfl | hx
    · exact ⟨at0, nou8 int_ne _ _, by show w.heap.size ≠ bo; omega, by show w.heap.size ≠ _; omega, by show w.heap.size ≠ _; omega⟩
    rcases List.mem_cons.1 hx with rfl | hx
    · exact ⟨at1, nou8 int_ne _ _, by show w.heap.size + 1 ≠ bo; omega, by show w.heap.size + 1 ≠ _; omega, by show w.heap.size + 1 ≠ _; omega⟩
    rcases List.mem_cons.1 hx with rfl | hx
    · exact ⟨at2, nou8 fb_ne _ _, by show w.heap.size + 2 ≠ bo; omega, by show w.heap.size + 2 ≠ _; omega, by show w.heap.size + 2 ≠ _; omega⟩
    have hx' := hcs x hx
    have hlt := (Array.getElem?_eq_some_iff.1 hx'.1).1
    exact ⟨(chain5_old w f t give _ hlt).trans hx'.1, hx'.2.1, hx'.2.2, by omega, by omega⟩
  · unfold chain5
    exact ((((how.alloc _).alloc _).alloc _).alloc _).alloc _

-- where the texts' signs lie, the row, and the box of the row
def base3 (w : World) (al : ByteArray) (C : Nat) : World := ((w.alloc (bx 9 (.string al))).alloc (.cells (row (List.replicate C 0)) 5)).alloc (bx 77 (.slice (some ⟨w.heap.size + 1, 0, none⟩) 0 C))
theorem base3_size (w : World) (al : ByteArray) (C : Nat) : (base3 w al C).heap.size = w.heap.size + 3 := by simp [base3]
theorem base3_al (w : World) (al : ByteArray) (C : Nat) : (base3 w al C).heap[w.heap.size]? = some (bx 9 (.string al)) := by
  unfold base3
  rw [heap_alloc_old _ _ (by simp <;> omega), heap_alloc_old _ _ (by simp), heap_alloc_new]
theorem base3_out (w : World) (al : ByteArray) (C : Nat) : Boxed (base3 w al C) (w.heap.size + 2) 77 (.slice (some ⟨w.heap.size + 1, 0, none⟩) 0 C) := by
  unfold base3
  have := heap_alloc_new ((w.alloc (bx 9 (.string al))).alloc (.cells (row (List.replicate C 0)) 5)) (bx 77 (.slice (some ⟨w.heap.size + 1, 0, none⟩) 0 C))
  rw [size1, size1] at this
  exact this
theorem base3_own (w : World) (al : ByteArray) (C : Nat) (hC : C ≤ 281474976710656) : (base3 w al C).ownsRow w.heap.size 5 1 (.slice (some ⟨w.heap.size + 1, 0, none⟩) 0 C) 0 [] := by
  unfold base3
  have := World.ownsRow_made (base := w.heap.size) (e := 5) (size := 1) (w.alloc (bx 9 (.string al))) (row (List.replicate C 0)) C (by simp) (by unfold maxLen; omega) (by rw [row_size]; simp)
  rw [size1] at this
  exact this.alloc _
theorem base3_below (w : World) (al : ByteArray) (C : Nat) : Below w.heap.size w (base3 w al C) := by
  unfold base3
  exact (((Below.refl _ _).alloc (Nat.le_refl _) _).alloc (by simp) _).alloc (by simp <;> omega) _

-- the bits of a text as signs
set_option maxHeartbeats 1600000 in
theorem inSigns (s al : ByteArray) (t : Nat) (ht : 1 ≤ t) (ht8 : t ≤ 8) (hal : al.size = 2 ^ t) (hs : s.size ≤ 140737488355328) (hC : s.size * 8 / t ≤ 281474976710656) (w : World) :
    Calls Tryz.prog 92 #[.string s, .string al, .int .i64 t] w fun e w' => e = .returned (.string (str ((mach 8 t (bs s)).1.map fun x => bt al x.toNat))) ∧ Below w.heap.size w w' := by
  have hmf : ∀ (fn : Fn) (first cap : Array Value) (w : World), (Instr.makeFunc fn first cap).run Tryz.prog w = .ok (.func fn first cap) w := fun _ _ _ _ => rfl
  obtain ⟨C, HC⟩ : ∃ C, Hid (s.size * 8 / t = C) := ⟨_, rfl⟩
  have hCm : C ≤ 281474976710656 := by rw [← HC.out]; exact hC
  have hq : ((s.size : Int) * 8) / (t : Int) = (C : Int) := by rw [← HC.out]; rw [Int.natCast_ediv, Int.natCast_mul]; rfl
  have hmk : ∀ w' : World, (Instr.makeSlice 77 (.int .i64 0) (.int .i64 C)).run Tryz.prog w' = .ok (.slice (some ⟨w'.heap.size, 0, none⟩) 0 C) (w'.alloc (.cells (row (List.replicate C 0)) 5)) := fun w' => make_wide w' C hCm
  have t0 : (t : Int) ≠ 0 := by omega
  have t1 : (0 : Int) < t := by omega
  have hR := regroup 8 t (.func (.func 122) #[] #[.pointer (some ⟨w.heap.size + 2, 0, none⟩), .pointer (some ⟨w.heap.size, 0, none⟩)]) rfl 122 _ rfl (base3 w al C)
  have HR : Hid (Calls _ _ _ _ _) := hR
  clear hR
  -- the state ahead of the loop
  have S0 := St.start w (base3 w al C) w.heap.size (w.heap.size + 2) C (w.heap.size + 1) C [(w.heap.size, bx 9 (.string al))] 8 t (.func (.func 122) #[] #[.pointer (some ⟨w.heap.size + 2, 0, none⟩), .pointer (some ⟨w.heap.size, 0, none⟩)]) (base3_below w al C) (by rw [base3_size]; omega) (by omega)
    (fun x hx => by rw [List.mem_singleton.1 hx]; exact ⟨base3_al w al C, nou8 str_ne _ _, by show w.heap.size ≠ _; omega⟩) (base3_out w al C) (Nat.le_refl _) (base3_own w al C hCm)
  rw [base3_size] at S0 HR
  obtain ⟨W1, HW1⟩ : ∃ W1, Hid (chain5 (base3 w al C) 8 t (.func (.func 122) #[] #[.pointer (some ⟨w.heap.size + 2, 0, none⟩), .pointer (some ⟨w.heap.size, 0, none⟩)]) = W1) := ⟨_, rfl⟩
  rw [HW1.out] at S0
  have S1 := St.more S0 (bx 153 (rgF (w.heap.size + 3 + 3) (w.heap.size + 3) (w.heap.size + 3 + 4) (w.heap.size + 3 + 1) (w.heap.size + 3 + 2))) (nou8 fb_ne _ _)
  obtain ⟨cs, hcs⟩ : ∃ cs, (W1.heap.size, bx 153 (rgF (w.heap.size + 3 + 3) (w.heap.size + 3) (w.heap.size + 3 + 4) (w.heap.size + 3 + 1) (w.heap.size + 3 + 2))) :: (w.heap.size + 3, bx 3 (.int .i64 8)) :: (w.heap.size + 3 + 1, bx 3 (.int .i64 t)) :: (w.heap.size + 3 + 2, bx 153 (.func (.func 122) #[] #[.pointer (some ⟨w.heap.size + 2, 0, none⟩), .pointer (some ⟨w.heap.size, 0, none⟩)])) :: [(w.heap.size, bx 9 (.string al))] = cs := ⟨_, rfl⟩
  rw [hcs] at S1
  have m0 : (W1.heap.size, bx 153 (rgF (w.heap.size + 3 + 3) (w.heap.size + 3) (w.heap.size + 3 + 4) (w.heap.size + 3 + 1) (w.heap.size + 3 + 2))) ∈ cs := by rw [← hcs]; simp
  have m1 : (w.heap.size + 3, bx 3 (.int .i64 8)) ∈ cs := by rw [← hcs]; simp
  have m2 : (w.heap.size + 3 + 1, bx 3 (.int .i64 t)) ∈ cs := by rw [← hcs]; simp
  have m3 : (w.heap.size + 3 + 2, bx 153 (.func (.func 122) #[] #[.pointer (some ⟨w.heap.size + 2, 0, none⟩), .pointer (some ⟨w.heap.size, 0, none⟩)])) ∈ cs := by rw [← hcs]; simp
  have m4 : (w.heap.size, bx 9 (.string al)) ∈ cs := by rw [← hcs]; simp
  clear hcs S0
  have T1 : Hid (Calls Tryz.prog 85 #[.string s, .func (.func 123) #[] #[.pointer (some ⟨W1.heap.size, 0, none⟩)]] (W1.alloc (bx 153 (rgF (w.heap.size + 3 + 3) (w.heap.size + 3) (w.heap.size + 3 + 4) (w.heap.size + 3 + 1) (w.heap.size + 3 + 2)))) fun e w' =>
      (e = .returned (.bool true) ∧ St w w.heap.size (w.heap.size + 2) C (w.heap.size + 3 + 3) (w.heap.size + 3 + 4) cs ((mach 8 t (btL s s.size)).1.map fun x => bt al x.toNat) (mach 8 t (btL s s.size)).2.1 (mach 8 t (btL s s.size)).2.2 w') ∨ (e = .returned (.bool false) ∧ False)) := by
    refine through s (by omega) 123 _ eInSigns2 (fun k w' => St w w.heap.size (w.heap.size + 2) C (w.heap.size + 3 + 3) (w.heap.size + 3 + 4) cs ((mach 8 t (btL s k)).1.map fun x => bt al x.toNat) (mach 8 t (btL s k)).2.1 (mach 8 t (btL s k)).2.2 w') (fun _ => False) ?_ _ S1
    intro k w' hk sk
    have iv := mach_inv 8 t ht s rfl k
    have b0 := bt_nonneg s k
    have b1 := bt_le s k
    have iv' := stp_inv 8 t ht k _ (bt s k) iv b0 (by omega)
    have hlen : ((mach 8 t (btL s k)).1.map fun x => bt al x.toNat).length + (flush t ((mach 8 t (btL s k)).2.2 + 8) ((mach 8 t (btL s k)).2.1 * 2 ^ 8 + bt s k) ((mach 8 t (btL s k)).2.2 + 8)).1.length ≤ C := by
      rw [List.length_map, ← HC.out, Nat.le_div_iff_mul_le (by omega)]
      have := iv'.len
      simp only [stp, List.length_append, Nat.mul_add] at this
      rw [Nat.add_mul, Nat.mul_comm _ t, Nat.mul_comm _ t]
      omega
    have r := regroup1 8 t (by omega) ht ht8 C (w.heap.size + 3) (w.heap.size + 3 + 1) (w.heap.size + 3 + 2) 122 _ eInSigns1 (fun x => bt al x.toNat) m1 m2 m3
      (fun q h c x w2 x0 x1 hq sq => by
        obtain ⟨n, rfl⟩ := Int.eq_ofNat_of_zero_le x0
        have hn : n < 2 ^ t := by exact_mod_cast x1
        exact inSigns1 al w.heap.size q h c n (by rw [hal]; exact hn) w2 sq m4 (.inl hq))
      _ _ (bt s k) _ iv.h0 iv.h1 (by have := iv.ct; omega) b0 (by omega) w' sk hlen
    refine (inSigns2 W1.heap.size (w.heap.size + 3) (w.heap.size + 3 + 1) (w.heap.size + 3 + 2) (bt s k) w' _ (sk.at m0) r).mono ?_
    rintro e w2 ⟨he, h2⟩
    refine .inl ⟨he, ?_⟩
    have e1 : mach 8 t (btL s (k + 1)) = stp 8 t (mach 8 t (btL s k)) (bt s k) := by rw [btL_succ, mach_snoc]
    rw [e1]
    simp only [stp, List.map_append]
    exact h2
  clear S1 m0 m1 m2 m3 m4
  obtain ⟨L, HL⟩ : ∃ L, Hid ((mach 8 t (bs s)).1.map (fun x => bt al x.toNat) = L) := ⟨_, rfl⟩
  have HM : Hid (btL s s.size = bs s) := rfl
  rw [HM.out, HL.out] at T1
  generalize (mach 8 t (bs s)).2.1 = h9 at T1
  generalize (((mach 8 t (bs s)).2.2 : Nat) : Int) = c9 at T1
  unfold rgF at T1
  rw [HL.out]
  clear hal ht8
  go_enter Tryz.func92, Tryz.ntmps92
  go_wp2_with fail
  refine HR.out.mono ?_
  rintro e w1 ⟨rfl, hw1⟩
  obtain rfl : w1 = W1 := hw1.trans HW1.out
  clear hw1 HR HW1 hmk
  go_wp2_with fail
  refine T1.out.mono ?_
  rintro e w4 (⟨rfl, hj⟩ | ⟨_, hf⟩)
  case inr => exact hf.elim
  obtain ⟨g, cap, hbox, _, how⟩ := hj.out
  have hc4 := hbox.cell
  have hcv := own_conv w4 w.heap.size _ L L.length rfl how
  have HB : Hid (Below w.heap.size w w4) := hj.below
  clear hj hbox how T1
  go_wp2
  go_ret
  exact ⟨rfl, HB.out⟩
end Go.Proofs.YthdkbjbhjfiaiaaGreatDoor.tg
