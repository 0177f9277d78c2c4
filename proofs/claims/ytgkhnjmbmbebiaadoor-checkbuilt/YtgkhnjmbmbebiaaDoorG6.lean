import Derived.Test.YtgkhnjmbmbebiaaDoorG5
import Derived.Test.YtgkhnjmbmbebiaaDoorG3
import Derived.Test.YtgkhnjmbmbebiaaDoorG4
namespace Go.Proofs.YtgkhnjmbmbebiaaDoor.qd
open Go.RowKit Go.PlainAid
open Go.Proofs.YtgkhnjmbmbebiaaDoor.pl Go.Proofs.YtgkhnjmbmbebiaaDoor.pi Go.Proofs.YtgkhnjmbmbebiaaDoor.pj Go.Proofs.YtgkhnjmbmbebiaaDoor.rf Go.Proofs.YtgkhnjmbmbebiaaDoor.ca Go.Proofs.YtgkhnjmbmbebiaaDoor.cb Go.Proofs.YtgkhnjmbmbebiaaDoor.cp Go.Proofs.YtgkhnjmbmbebiaaDoor.ga Go.Proofs.YtgkhnjmbmbebiaaDoor.aa Go.Proofs.YtgkhnjmbmbebiaaDoor.ka Go.Proofs.YtgkhnjmbmbebiaaDoor.kb Go.Proofs.YtgkhnjmbmbebiaaDoor.kc Go.Proofs.YtgkhnjmbmbebiaaDoor.kp Go.Proofs.YtgkhnjmbmbebiaaDoor.lk Go.Proofs.YtgkhnjmbmbebiaaDoor.mi Go.Proofs.YtgkhnjmbmbebiaaDoor.co Go.Proofs.YtgkhnjmbmbebiaaDoor.cn Go.Proofs.YtgkhnjmbmbebiaaDoor.dc Go.Proofs.YtgkhnjmbmbebiaaDoor.wt Go.Proofs.YtgkhnjmbmbebiaaDoor.qa Go.Proofs.YtgkhnjmbmbebiaaDoor.qb Go.Proofs.YtgkhnjmbmbebiaaDoor.qc
set_option linter.unusedVariables false

def ldP (wd : Int) (i n : Nat) (hash : ByteArray) (path : List ByteArray) : ByteArray := (go (WS wd (lkI i) (fun _ => 0)) (0, [hash], path) 0 n).1
theorem claims (i : Nat) (n : Nat) : ∀ a b, b - a = n → a < b → (WL (fl (lkI i)) a b).length ≤ 1 ∧ (¬ (a ≤ i ∧ i < b) → (WL (fl (lkI i)) a b).length = 0) := by
  induction n using Nat.strongRecOn with
  | ind n ih =>
    intro a b hn hab
    by_cases h : a ≤ i ∧ i < b
    · refine ⟨?_, fun g => absurd h g⟩
      by_cases h1 : b - a = 1
      · rw [WL_take (lk := fl (lkI i)) (by unfold fl lkI; rw [if_pos h, if_pos h1]; rfl)]; simp
      · have h2 : 2 ≤ b - a := by omega
        have hh := half_lt h2
        obtain ⟨l1, l2⟩ := ih (half (b - a)) (by omega) a (a + half (b - a)) (by omega) (by omega)
        obtain ⟨r1, r2⟩ := ih (b - a - half (b - a)) (by omega) (a + half (b - a)) b (by omega) (by omega)
        by_cases g : i < a + half (b - a)
        · rw [WL_left (lk := fl (lkI i)) (by rw [fl_two] <;> (unfold lkI; rw [if_pos h, if_neg h1, if_pos g]) ; omega) h2, List.length_append, r2 (by omega)]; omega
        · rw [WL_right (lk := fl (lkI i)) (by rw [fl_two] <;> (unfold lkI; rw [if_pos h, if_neg h1, if_neg g]); all_goals omega) h2, List.length_append, l2 (by omega)]; omega
    · have e : WL (fl (lkI i)) a b = [] := WL_pass (by unfold fl lkI; rw [if_neg h, if_neg (by omega), if_pos rfl])
      rw [e]
      exact ⟨by simp, fun _ => rfl⟩
theorem text_reads (w : World) (h : ByteArray) : ReadsT (w.alloc (.cells #[.string h] 9)) (.slice (some ⟨w.heap.size, 0, none⟩) 1 1) [h] :=
  ⟨_, 1, rfl, Nat.le_refl _, .inr ⟨w.heap.size, 0, rfl, fun i hi => by
    obtain rfl : i = 0 := by simp at hi; omega
    rw [World.cell?_alloc_at _ _ _ _ rfl]; rfl⟩⟩
set_option maxHeartbeats 1600000 in
theorem leadsC (wd : Int) (i n : Nat) (hash : ByteArray) (v : Value) (path : List ByteArray) (h1 : i < n) (hn : n ≤ 4611686018427387904) (w : World) (hR : ReadsT w v path) (hT : Tab w) (hw : hash.size = wid wd) (hp : Wide wd path) (hl : path.length = cI i n) :
    Calls Tryd.prog 37 #[.int .i64 wd, .int .i64 i, .int .i64 n, .string hash, v] w fun e w' => e = .returned (.string (ldP wd i n hash path)) ∧ (ldP wd i n hash path).size = wid wd ∧ Below w.heap.size w w' := by
  have IC : Hid (∀ w, Calls _ _ _ _ _) := fun w => inclusionC i w
  have B1 : Hid (Below w.heap.size w (w.alloc (.cells #[.string hash] 9))) := (Below.refl _ _).alloc (Nat.le_refl _) _
  have s1 : (w.alloc (.cells #[.string hash] 9)).heap.size = w.heap.size + 1 := by simp
  have R0 := Old.of (text_reads w hash)
  have R1 := Old.of (hR.later B1.out)
  rw [s1] at R0 R1
  obtain ⟨pa, pc, rfl, _⟩ := hR
  obtain ⟨l, HL⟩ : ∃ l, Hid (path.length = l) := ⟨_, rfl⟩
  obtain ⟨W0, HW0⟩ : ∃ W, Hid (W = w.alloc (.cells #[.string hash] 9)) := ⟨_, rfl⟩
  have HB : Hid (2 ≤ w.heap.size + 1) := Nat.le_trans hT.big (Nat.le_succ _)
  have RC : Hid (∀ w4, w4 = (((w.alloc (.cells #[.string hash] 9)).alloc (.cells #[.slice (some ⟨w.heap.size, 0, none⟩) 1 1] 84)).alloc (.cells #[.slice pa path.length pc] 84)).alloc (.cells #[.int .i64 i] 3) → Calls Tryd.prog 73 #[.int .i64 wd, .int .i64 n, .func (.func 95) #[] #[.pointer (some ⟨w.heap.size + 1 + 1 + 1, 0, none⟩)], .func (.func 55) #[.pointer (some ⟨w.heap.size + 1, 0, none⟩)] #[], .func (.func 55) #[.pointer (some ⟨w.heap.size + 1 + 1, 0, none⟩)] #[]] w4 fun e w' => e = .returned (.string (ldP wd i n hash path)) ∧ (ldP wd i n hash path).size = wid wd ∧ Below w.heap.size w w') := by
    intro w4 hw4
    obtain ⟨w1, e1⟩ : ∃ x, x = w.alloc (.cells #[.string hash] 9) := ⟨_, rfl⟩
    obtain ⟨w2, e2⟩ : ∃ x, x = w1.alloc (.cells #[.slice (some ⟨w.heap.size, 0, none⟩) 1 1] 84) := ⟨_, rfl⟩
    obtain ⟨w3, e3⟩ : ∃ x, x = w2.alloc (.cells #[.slice pa path.length pc] 84) := ⟨_, rfl⟩
    rw [← e1] at R0 R1 hw4 s1 B1
    rw [← e2, ← e3] at hw4
    have s2 : w2.heap.size = w.heap.size + 1 + 1 := by rw [e2]; simp [s1]
    have s3 : w3.heap.size = w.heap.size + 1 + 1 + 1 := by rw [e3]; simp [s2]
    have b2 : Below w1.heap.size w1 w2 := by rw [e2]; exact (Below.refl _ _).alloc (Nat.le_refl _) _
    have b3 : Below w2.heap.size w2 w3 := by rw [e3]; exact (Below.refl _ _).alloc (Nat.le_refl _) _
    have b4 : Below w3.heap.size w3 w4 := by rw [hw4]; exact (Below.refl _ _).alloc (Nat.le_refl _) _
    have n2 : w2.heap[w.heap.size + 1]? = some (.cells #[.slice (some ⟨w.heap.size, 0, none⟩) 1 1] 84 (0, 0)) := by rw [← s1, e2]; exact heap_alloc_new w1 _
    have n3 : w3.heap[w.heap.size + 1 + 1]? = some (.cells #[.slice pa path.length pc] 84 (0, 0)) := by rw [← s2, e3]; exact heap_alloc_new w2 _
    have c3 : w3.heap[w.heap.size + 1]? = _ := (b3.block _ (by rw [s2]; omega)).trans n2
    have c4 : w4.heap[w.heap.size + 1]? = _ := (b4.block _ (by rw [s3]; omega)).trans c3
    have p4 : w4.heap[w.heap.size + 1 + 1]? = _ := (b4.block _ (by rw [s3]; omega)).trans n3
    have kk : Kp no w1 w4 := ((Kp.of_below b2).trans (Kp.of_below b3)).trans (Kp.of_below b4)
    have i4 : w4.cell? ⟨w.heap.size + 1 + 1 + 1, 0, none⟩ = some (.int .i64 i) := by rw [← s3, hw4, World.cell?_alloc_at _ _ _ _ rfl]; rfl
    have hb14 : Below w.heap.size w w4 := over (over (over B1.out b2) b3) b4
    have sz : w.heap.size + 1 ≤ w4.heap.size := by have := kk.size; omega
    refine (reckonC (ShI (w.heap.size + 1 + 1 + 1) i) wd n (w.heap.size + 1) (w.heap.size + 1) (w.heap.size + 1 + 1) [hash] path (by omega) hn w4 i4 ⟨Nat.le_refl _, _, c4, R0.keep kk (fun _ e => e.elim)⟩ ⟨by omega, _, p4, R1.keep kk (fun _ e => e.elim)⟩ (hT.down hb14) HB.out sz (by omega) (by omega) (by omega) (fun b e => e.elim) (claims i n 0 n rfl (by omega)).1 (by rw [cI_is h1, hl]; exact Nat.le_refl _) (fun x hx => by simp only [List.mem_cons, List.not_mem_nil, or_false] at hx; rw [hx]; exact hw) hp).mono fun e w' hh => ⟨hh.1, hh.2.1, ?_⟩
    exact hb14.trans (hh.2.2.mono (by omega))
  rw [HL.out] at RC ⊢
  clear R0 R1 hT hw hp hl B1 s1
  go_enter Tryd.func37, Tryd.ntmps37
  go_wp2_with fail
  refine (IC.out _).mono ?_
  rintro e w4 ⟨rfl, hw4⟩
  have RC4 : Hid (Calls _ _ _ _ _) := RC.out w4 hw4
  clear hw4
  go_wp2_with fail
  refine RC4.out.mono ?_
  rintro e w5 ⟨rfl, hz5, hb5⟩
  have H5 : Hid (_ ∧ Below w.heap.size w w5) := ⟨hz5, hb5⟩
  clear hz5 hb5
  go_wp2
  go_ret
  exact ⟨rfl, H5.out.1, H5.out.2⟩
-- what is refused of an inclusion
def incR (wd i n : Int) (path others : List ByteArray) : Int := if (cnt9 1 i 0 n []).2 = 0 then rH wd (cnt9 1 i 0 n []).1 path others else (cnt9 1 i 0 n []).2
theorem reads_nilI (w : World) : ReadsI w (.slice none 0 0) [] := ⟨none, 0, rfl, Nat.le_refl _, .inl rfl⟩
theorem refI (wd i n : Int) (hwd : i64 wd) (vp vo : Value) (path others : List ByteArray) (w : World) (hp : ReadsT w vp path) (ho : ReadsT w vo others) (zp : path.length ≤ 140737488355328) (zo : others.length ≤ 140737488355328) :
    Calls Tryd.prog 36 #[.int .i64 wd, .int .i64 i, .int .i64 n, vp, vo] w fun e w' => e = .returned (.int .i64 (incR wd i n path others)) ∧ Below w.heap.size w w' := by
  have CC : Hid (Calls _ _ _ _ _) := countC 1 i 0 n (.slice none 0 0) [] w (reads_nilI w) (by simp)
  have RH : Hid (∀ w, ReadsT w vp path → ReadsT w vo others → Calls _ _ _ _ _) := fun w h1 h2 => refuseH wd hwd (cnt9 1 i 0 n []).1 vp vo path others w h1 h2 zp zo
  have HR : Hid (ReadsT w vp path ∧ ReadsT w vo others) := ⟨hp, ho⟩
  obtain ⟨pa, pc, rfl, _⟩ := hp
  obtain ⟨oa, oc, rfl, _⟩ := ho
  unfold incR
  obtain ⟨c, HC⟩ : ∃ c, Hid (cnt9 1 i 0 n [] = c) := ⟨_, rfl⟩
  rw [HC.out] at CC RH ⊢
  obtain ⟨c1, c2⟩ := c
  by_cases h : c2 = 0
  · subst h
    rw [if_pos rfl]
    obtain ⟨r, HRR⟩ : ∃ r, Hid (rH wd c1 path others = r) := ⟨_, rfl⟩
    simp only at RH ⊢
    rw [HRR.out] at RH ⊢
    go_enter Tryd.func36, Tryd.ntmps36
    go_wp2_with fail
    refine CC.out.mono ?_
    rintro e w1 ⟨rfl, hb1⟩
    have B1 : Hid (Below w.heap.size w w1) := hb1
    clear hb1
    go_wp2_with fail
    refine (RH.out _ (HR.out.1.later B1.out) (HR.out.2.later B1.out)).mono ?_
    rintro e w2 ⟨rfl, hw⟩
    subst hw
    go_wp2
    go_ret
    exact ⟨rfl, B1.out⟩
  · rw [if_neg h]
    have q : (c2 == 0) = false := by rw [beq_eq_false_iff_ne]; exact h
    clear h
    go_enter Tryd.func36, Tryd.ntmps36
    go_wp2_with fail
    refine CC.out.mono ?_
    rintro e w1 ⟨rfl, hb1⟩
    have B1 : Hid (Below w.heap.size w w1) := hb1
    clear hb1
    go_wp2
    go_ret
    exact ⟨rfl, B1.out⟩
-- if nothing is refused
theorem incR_ok {wd i n : Int} {path others : List ByteArray} (h : incR wd i n path others = 0) : ∃ I N : Nat, i = I ∧ n = N ∧ I < N ∧ N ≤ 4611686018427387904 ∧ path.length = cI I N ∧ Wide wd path ∧ Wide wd others := by
  unfold incR at h
  by_cases h0 : ref9 1 i 0 n [] = 0
  · have hc : cnt9 1 i 0 n [] = (((num9 1 i 0 n [] : Nat) : Int), 0) := by unfold cnt9; rw [if_pos h0]
    rw [hc, if_pos rfl] at h
    unfold ref9 at h0
    rw [if_neg (by omega)] at h0
    by_cases k2 : n < 0 ∨ 4611686018427387904 < n
    · rw [if_pos k2] at h0; omega
    rw [if_neg k2, if_pos rfl] at h0
    by_cases g : i < 0 ∨ n ≤ i
    · rw [if_pos g] at h0; omega
    obtain ⟨I, rfl⟩ : ∃ A : Nat, i = A := ⟨i.toNat, by omega⟩
    obtain ⟨N, rfl⟩ : ∃ A : Nat, n = A := ⟨n.toNat, by omega⟩
    unfold rH at h
    unfold num9 at h
    rw [if_pos rfl, Int.toNat_natCast, Int.toNat_natCast, cI_is (by omega)] at h
    by_cases q : (okH wd others && okH wd path) = true
    · rw [if_pos q] at h
      rw [Bool.and_eq_true] at q
      by_cases q2 : (path.length : Int) = ((cI I N : Nat) : Int)
      · exact ⟨I, N, rfl, rfl, by omega, by omega, by omega, okH_wide q.2, okH_wide q.1⟩
      · rw [if_neg q2] at h; omega
    · rw [if_neg q] at h; omega
  · have hc : cnt9 1 i 0 n [] = (0, ref9 1 i 0 n []) := by unfold cnt9; rw [if_neg h0]
    rw [hc] at h
    simp only at h
    rw [if_neg h0] at h
    exact absurd h h0
def leadA (wd i n : Int) (hash : ByteArray) (path : List ByteArray) : ByteArray × Int := if incR wd i n path [hash] = 0 then (ldP wd i.toNat n.toNat hash path, 0) else (ByteArray.empty, incR wd i n path [hash])
def incA (wd i n : Int) (hash : ByteArray) (path : List ByteArray) (root : ByteArray) : Int := if incR wd i n path [hash, root] = 0 then (if ldP wd i.toNat n.toNat hash path = root then 0 else 90) else incR wd i n path [hash, root]
set_option maxHeartbeats 1600000 in
theorem LeadsC (wd i n : Int) (hwd : i64 wd) (hash : ByteArray) (vp : Value) (path : List ByteArray) (w : World) (hp : ReadsT w vp path) (zp : path.length ≤ 140737488355328) (hT : Tab w) :
    Calls Tryd.prog 10 #[.int .i64 wd, .int .i64 i, .int .i64 n, .string hash, vp] w fun e w' => e = .returned (.tuple #[.string (leadA wd i n hash path).1, .int .i64 (leadA wd i n hash path).2]) ∧ Below w.heap.size w w' := by
  have B1 : Hid (Below w.heap.size w (w.alloc (.cells #[.string hash] 9))) := (Below.refl _ _).alloc (Nat.le_refl _) _
  have RC : Hid (Calls _ _ _ _ _) := refI wd i n hwd vp _ path [hash] _ (hp.later B1.out) (text_reads w hash) zp (by simp)
  have HP : Hid (ReadsT w vp path ∧ Tab w) := ⟨hp, hT⟩
  have hp2 := hp
  obtain ⟨pa, pc, rfl, _⟩ := hp
  unfold leadA
  by_cases h : incR wd i n path [hash] = 0
  · obtain ⟨I, N, rfl, rfl, q1, q2, q3, q4, q5⟩ := incR_ok h
    have LC : Hid (∀ w', Below w.heap.size w w' → Calls _ _ _ _ _) := fun w' hb => leadsC wd I N hash _ path q1 q2 w' (HP.out.1.later hb) (HP.out.2.down hb) (q5 hash (by simp)) q4 q3
    rw [if_pos h, Int.toNat_natCast, Int.toNat_natCast]
    rw [h] at RC
    obtain ⟨x, HX⟩ : ∃ x, Hid (ldP wd I N hash path = x) := ⟨_, rfl⟩
    rw [HX.out] at LC ⊢
    obtain ⟨l, HL⟩ : ∃ l, Hid (path.length = l) := ⟨_, rfl⟩
    rw [HL.out] at RC LC HP ⊢
    clear h q1 q2 q3 q4 q5 hp2 zp
    go_enter Tryd.func10, Tryd.ntmps10
    go_wp2_with fail
    refine RC.out.mono ?_
    rintro e w1 ⟨rfl, hb1⟩
    have B2 : Hid (Below w.heap.size w w1) := over B1.out hb1
    clear hb1
    go_wp2_with fail
    refine (LC.out _ B2.out).mono ?_
    rintro e w2 ⟨rfl, _, hb2⟩
    have B3 : Hid (Below w.heap.size w w2) := over B2.out hb2
    clear hb2
    go_wp2
    go_ret2
    exact ⟨rfl, B3.out⟩
  · rw [if_neg h]
    have q : (incR wd i n path [hash] == 0) = false := by rw [beq_eq_false_iff_ne]; exact h
    obtain ⟨r, HX⟩ : ∃ x, Hid (incR wd i n path [hash] = x) := ⟨_, rfl⟩
    rw [HX.out] at RC q ⊢
    obtain ⟨l, HL⟩ : ∃ l, Hid (path.length = l) := ⟨_, rfl⟩
    rw [HL.out] at RC ⊢
    clear h hp2 zp HP
    go_enter Tryd.func10, Tryd.ntmps10
    go_wp2_with fail
    refine RC.out.mono ?_
    rintro e w1 ⟨rfl, hb1⟩
    have B2 : Hid (Below w.heap.size w w1) := over B1.out hb1
    clear hb1
    go_wp2
    go_ret2
    exact ⟨rfl, B2.out⟩
theorem two_reads (w : World) (h r : ByteArray) : ReadsT (w.alloc (.cells #[.string h, .string r] 9)) (.slice (some ⟨w.heap.size, 0, none⟩) 2 2) [h, r] :=
  ⟨_, 2, rfl, Nat.le_refl _, .inr ⟨w.heap.size, 0, rfl, fun i hi => by
    rw [World.cell?_alloc_at _ _ _ _ rfl]
    have hi2 : i < 2 := by simpa using hi
    rcases (show i = 0 ∨ i = 1 by omega) with rfl | rfl <;> rfl⟩⟩
set_option maxHeartbeats 1600000 in
theorem InclC (wd i n : Int) (hwd : i64 wd) (hash : ByteArray) (vp : Value) (path : List ByteArray) (root : ByteArray) (w : World) (hp : ReadsT w vp path) (zp : path.length ≤ 140737488355328) (hT : Tab w) :
    Calls Tryd.prog 11 #[.int .i64 wd, .int .i64 i, .int .i64 n, .string hash, vp, .string root] w fun e w' => e = .returned (.int .i64 (incA wd i n hash path root)) ∧ Below w.heap.size w w' := by
  have B1 : Hid (Below w.heap.size w (w.alloc (.cells #[.string hash, .string root] 9))) := (Below.refl _ _).alloc (Nat.le_refl _) _
  have RC : Hid (Calls _ _ _ _ _) := refI wd i n hwd vp _ path [hash, root] _ (hp.later B1.out) (two_reads w hash root) zp (by simp)
  have HP : Hid (ReadsT w vp path ∧ Tab w) := ⟨hp, hT⟩
  have hp2 := hp
  obtain ⟨pa, pc, rfl, _⟩ := hp
  unfold incA
  by_cases h : incR wd i n path [hash, root] = 0
  · obtain ⟨I, N, rfl, rfl, q1, q2, q3, q4, q5⟩ := incR_ok h
    have LC : Hid (∀ w', Below w.heap.size w w' → Calls _ _ _ _ _) := fun w' hb => leadsC wd I N hash _ path q1 q2 w' (HP.out.1.later hb) (HP.out.2.down hb) (q5 hash (by simp)) q4 q3
    rw [if_pos h, Int.toNat_natCast, Int.toNat_natCast]
    rw [h] at RC
    obtain ⟨x, HX⟩ : ∃ x, Hid (ldP wd I N hash path = x) := ⟨_, rfl⟩
    rw [HX.out] at LC ⊢
    have MC : Hid (∀ w, Calls _ _ _ _ _) := fun w => matchC x root w
    obtain ⟨y, HY⟩ : ∃ y : Int, Hid ((if x = root then 0 else 90) = y) := ⟨_, rfl⟩
    rw [HY.out] at MC ⊢
    obtain ⟨l, HL⟩ : ∃ l, Hid (path.length = l) := ⟨_, rfl⟩
    rw [HL.out] at RC LC HP ⊢
    clear h q1 q2 q3 q4 q5 hp2 zp
    go_enter Tryd.func11, Tryd.ntmps11
    go_wp2_with fail
    refine RC.out.mono ?_
    rintro e w1 ⟨rfl, hb1⟩
    have B2 : Hid (Below w.heap.size w w1) := over B1.out hb1
    clear hb1
    go_wp2_with fail
    refine (LC.out _ B2.out).mono ?_
    rintro e w2 ⟨rfl, _, hb2⟩
    have B3 : Hid (Below w.heap.size w w2) := over B2.out hb2
    clear hb2
    go_wp2_with fail
    refine (MC.out _).mono ?_
    rintro e w3 ⟨rfl, hw⟩
    subst hw
    go_wp2
    go_ret
    exact ⟨rfl, B3.out⟩
  · rw [if_neg h]
    have q : (incR wd i n path [hash, root] == 0) = false := by rw [beq_eq_false_iff_ne]; exact h
    obtain ⟨r, HX⟩ : ∃ x, Hid (incR wd i n path [hash, root] = x) := ⟨_, rfl⟩
    rw [HX.out] at RC q ⊢
    obtain ⟨l, HL⟩ : ∃ l, Hid (path.length = l) := ⟨_, rfl⟩
    rw [HL.out] at RC ⊢
    clear h hp2 zp HP
    go_enter Tryd.func11, Tryd.ntmps11
    go_wp2_with fail
    refine RC.out.mono ?_
    rintro e w1 ⟨rfl, hb1⟩
    have B2 : Hid (Below w.heap.size w w1) := over B1.out hb1
    clear hb1
    go_wp2
    go_ret
    exact ⟨rfl, B2.out⟩
end Go.Proofs.YtgkhnjmbmbebiaaDoor.qd

namespace Go.Proofs.YtgkhnjmbmbebiaaDoor.qf
open Go.RowKit Go.PlainAid
open Go.Proofs.YtgkhnjmbmbebiaaDoor.pl Go.Proofs.YtgkhnjmbmbebiaaDoor.pi Go.Proofs.YtgkhnjmbmbebiaaDoor.pj Go.Proofs.YtgkhnjmbmbebiaaDoor.rf Go.Proofs.YtgkhnjmbmbebiaaDoor.ca Go.Proofs.YtgkhnjmbmbebiaaDoor.cb Go.Proofs.YtgkhnjmbmbebiaaDoor.cp Go.Proofs.YtgkhnjmbmbebiaaDoor.ga Go.Proofs.YtgkhnjmbmbebiaaDoor.aa Go.Proofs.YtgkhnjmbmbebiaaDoor.ka Go.Proofs.YtgkhnjmbmbebiaaDoor.kb Go.Proofs.YtgkhnjmbmbebiaaDoor.kp Go.Proofs.YtgkhnjmbmbebiaaDoor.mi Go.Proofs.YtgkhnjmbmbebiaaDoor.co Go.Proofs.YtgkhnjmbmbebiaaDoor.dc Go.Proofs.YtgkhnjmbmbebiaaDoor.df Go.Proofs.YtgkhnjmbmbebiaaDoor.lk Go.Proofs.YtgkhnjmbmbebiaaDoor.qb Go.Proofs.YtgkhnjmbmbebiaaDoor.qc Go.Proofs.YtgkhnjmbmbebiaaDoor.qd Go.Proofs.YtgkhnjmbmbebiaaDoor.qe
set_option linter.unusedVariables false

-- the document's root of a path
def dl (wd : Int) (hash : ByteArray) (i n : Nat) (path : List ByteArray) : ByteArray :=
  if h : 2 ≤ n then
    if i < half n then NF wd (dl wd hash i (half n) path.dropLast) (path.getLastD ByteArray.empty)
    else NF wd (path.getLastD ByteArray.empty) (dl wd hash (i - half n) (n - half n) path.dropLast)
  else hash
termination_by n
decreasing_by all_goals (have := half_lt h; omega)
theorem dl_one {wd : Int} {hash : ByteArray} {i n : Nat} {path : List ByteArray} (h : ¬ 2 ≤ n) : dl wd hash i n path = hash := by rw [dl, dif_neg h]
theorem dl_low {wd : Int} {hash : ByteArray} {i n : Nat} {path : List ByteArray} (h : 2 ≤ n) (hi : i < half n) : dl wd hash i n path = NF wd (dl wd hash i (half n) path.dropLast) (path.getLastD ByteArray.empty) := by rw [dl, dif_pos h, if_pos hi]
theorem dl_high {wd : Int} {hash : ByteArray} {i n : Nat} {path : List ByteArray} (h : 2 ≤ n) (hi : ¬ i < half n) : dl wd hash i n path = NF wd (path.getLastD ByteArray.empty) (dl wd hash (i - half n) (n - half n) path.dropLast) := by rw [dl, dif_pos h, if_neg hi]
theorem dl_size {wd : Int} {hash : ByteArray} (h : hash.size = wid wd) (i n : Nat) (path : List ByteArray) : (dl wd hash i n path).size = wid wd := by
  by_cases h2 : 2 ≤ n
  · by_cases hi : i < half n
    · rw [dl_low h2 hi]; exact NF_size _ _ _
    · rw [dl_high h2 hi]; exact NF_size _ _ _
  · rw [dl_one h2]; exact h
theorem dl_wid (wd : Int) (hash : ByteArray) (n : Nat) : ∀ i path, dl ((wid wd : Nat) : Int) hash i n path = dl wd hash i n path := by
  induction n using Nat.strongRecOn with
  | ind n ih =>
    intro i path
    by_cases h2 : 2 ≤ n
    · have hh := half_lt h2
      by_cases hi : i < half n
      · rw [dl_low h2 hi, dl_low h2 hi, ih _ hh.2.1, NF_wid]
      · rw [dl_high h2 hi, dl_high h2 hi, ih _ (by omega), NF_wid]
    · rw [dl_one h2, dl_one h2]
theorem take_last (p : List ByteArray) (L : Nat) (h : L < p.length) : (p.take (L + 1)).dropLast = p.take L ∧ (p.take (L + 1)).getLastD ByteArray.empty = (p.drop L).headD ByteArray.empty := by
  have e : p.take (L + 1) = p.take L ++ [p[L]] := by rw [List.take_add_one, List.getElem?_eq_getElem h]; rfl
  have e2 : p.drop L = p[L] :: p.drop (L + 1) := List.drop_eq_getElem_cons h
  constructor
  · rw [e, List.dropLast_concat]
  · rw [e, e2, List.getLastD_eq_getLast?, List.getLast?_concat]
    rfl
theorem lead_is (wd : Int) (i : Nat) (hash : ByteArray) (n : Nat) : ∀ a b p, b - a = n → a ≤ i → i < b → (WL (lkI i) a b).length ≤ p.length → (go (WS wd (lkI i) (fun _ => 0)) (0, [hash], p) a b).1 = dl wd hash (i - a) (b - a) (p.take (WL (lkI i) a b).length) := by
  induction n using Nat.strongRecOn with
  | ind n ih =>
    intro a b p hn h1 h2 hp
    have S := ShI 0 i
    by_cases h : 2 ≤ b - a
    · have hh := half_lt h
      by_cases hi : i < a + half (b - a)
      · have hk : lkI i a b = 2 := by unfold lkI; rw [if_pos ⟨h1, h2⟩, if_neg (by omega), if_pos hi]
        have hk2 : lkI i (a + half (b - a)) b = 1 := by unfold lkI; rw [if_neg (by omega)]
        have e : (WS wd (lkI i) (fun _ => 0)).lk (0, [hash], p) a b = (2, 0, [hash], p) := by show (lkI i a b, _) = _; rw [hk]; rfl
        have hlen : (WL (lkI i) a b).length = (WL (lkI i) a (a + half (b - a))).length + 1 := by rw [WL_left hk h, List.length_append, WL_take hk2]; rfl
        rw [hlen] at hp ⊢
        have st := go_state wd (lk := lkI i) (cur := fun _ => 0) S.wide S.four S.turn (half (b - a)) a (a + half (b - a)) [hash] p (by omega) (by omega)
        obtain ⟨t1, t2⟩ := take_last p (WL (lkI i) a (a + half (b - a))).length (by omega)
        rw [go_left (by rw [e]) h, e]
        simp only
        rw [st, ih (half (b - a)) (by omega) a (a + half (b - a)) p (by omega) h1 hi (by omega), dl_low h (by omega), t1, t2, show a + half (b - a) - a = half (b - a) by omega]
        have e2 : ∀ c q, (go (WS wd (lkI i) (fun _ => 0)) (0, c, q) (a + half (b - a)) b).1 = q.headD ByteArray.empty := fun c q => by
          have z : (WS wd (lkI i) (fun _ => 0)).lk (0, c, q) (a + half (b - a)) b = (1, 0, c, q) := by show (lkI i (a + half (b - a)) b, _) = _; rw [hk2]; rfl
          rw [go_stop (by rw [z]; show 1 < 2; omega), z]; rfl
        rw [e2]
        rfl
      · have hk : lkI i a b = 3 := by unfold lkI; rw [if_pos ⟨h1, h2⟩, if_neg (by omega), if_neg hi]
        have hk2 : lkI i a (a + half (b - a)) = 1 := by unfold lkI; rw [if_neg (by omega)]
        have e : (WS wd (lkI i) (fun _ => 0)).lk (0, [hash], p) a b = (3, 0, [hash], p) := by show (lkI i a b, _) = _; rw [hk]; rfl
        have hlen : (WL (lkI i) a b).length = (WL (lkI i) (a + half (b - a)) b).length + 1 := by rw [WL_right (by omega) h, List.length_append, WL_take hk2]; rfl
        rw [hlen] at hp ⊢
        have st := go_state wd (lk := lkI i) (cur := fun _ => 0) S.wide S.four S.turn (b - a - half (b - a)) (a + half (b - a)) b [hash] p (by omega) (by omega)
        obtain ⟨t1, t2⟩ := take_last p (WL (lkI i) (a + half (b - a)) b).length (by omega)
        rw [go_right (by rw [e]; exact Nat.le_refl _) h, e]
        simp only
        rw [st, ih (b - a - half (b - a)) (by omega) (a + half (b - a)) b p (by omega) (by omega) h2 (by omega), dl_high h (by omega), t1, t2, show i - (a + half (b - a)) = i - a - half (b - a) by omega, show b - (a + half (b - a)) = b - a - half (b - a) by omega]
        have e2 : ∀ c q, (go (WS wd (lkI i) (fun _ => 0)) (0, c, q) a (a + half (b - a))).1 = q.headD ByteArray.empty := fun c q => by
          have z : (WS wd (lkI i) (fun _ => 0)).lk (0, c, q) a (a + half (b - a)) = (1, 0, c, q) := by show (lkI i a (a + half (b - a)), _) = _; rw [hk2]; rfl
          rw [go_stop (by rw [z]; show 1 < 2; omega), z]; rfl
        rw [e2]
        rfl
    · have hk : lkI i a b = 0 := by unfold lkI; rw [if_pos ⟨h1, h2⟩, if_pos (by omega)]
      have e : (WS wd (lkI i) (fun _ => 0)).lk (0, [hash], p) a b = (0, 0, [hash], p) := by show (lkI i a b, _) = _; rw [hk]; rfl
      rw [go_stop (by rw [e]; show 0 < 2; omega), e, dl_one h]
      rfl
theorem ldP_is (wd : Int) (i n : Nat) (hash : ByteArray) (path : List ByteArray) (h : i < n) (hl : path.length = cI i n) : ldP wd i n hash path = dl wd hash i n path := by
  unfold ldP
  rw [lead_is wd i hash n 0 n path rfl (Nat.zero_le _) h (by rw [cI_is h, hl]; exact Nat.le_refl _), Nat.sub_zero, Nat.sub_zero, List.take_of_length_le (by rw [cI_is h, hl]; exact Nat.le_refl _)]
set_option maxHeartbeats 3200000 in
theorem rLead (wd : Int) (hash : ByteArray) (hh0 : hash.size = wid wd) (n : Nat) : ∀ (i : Nat) (v : Value) (path : List ByteArray) (w : World), i < n → n ≤ 4611686018427387904 → path.length = cI i n → Wide wd path → ReadsT w v path → Tab4 w →
    Calls Tryd.prog 62 #[.int .i64 (wid wd : Nat), .int .i64 i, .int .i64 n, .string hash, v] w fun e w' => e = .returned (.string (dl wd hash i n path)) ∧ Below w.heap.size w w' := by
  induction n using Nat.strongRecOn with
  | ind n ih =>
    intro i v path w hi hn hl hW hR hT
    have h32 := qb.wid_le wd
    by_cases h2 : 2 ≤ n
    · have hh := half_lt h2
      have SP : Hid (∀ w, Calls _ _ _ _ _) := fun w => rSplit n h2 hn w
      have q1 : ((n : Int) == 1) = false := by rw [beq_eq_false_iff_ne]; omega
      have h62 : path.length ≤ 62 := by rw [hl]; exact cI_le hi hn
      have hlp : 1 ≤ path.length := by
        by_cases g : i < half n
        · rw [cI_low h2 g] at hl; omega
        · rw [cI_high h2 hi g] at hl; omega
      obtain ⟨a, cap, rfl, hcap, hh'⟩ := hR
      obtain ⟨b, off, rfl, hc⟩ := hh'.resolve_left (by omega)
      have RF : Hid (ReadsT w (.slice (some ⟨b, off, none⟩) (path.length - 1) cap) path.dropLast) := by
        have := ReadsT.front (k := path.length - 1) (show ReadsT w (.slice (some ⟨b, off, none⟩) path.length cap) path from ⟨_, cap, rfl, hcap, .inr ⟨b, off, rfl, hc⟩⟩) (by omega)
        rw [List.dropLast_eq_take]
        exact this
      have c1 := hc (path.length - 1) (by omega)
      have eL : path.getD (path.length - 1) ByteArray.empty = path.getLastD ByteArray.empty := by
        rw [List.getLastD_eq_getLast?, List.getLast?_eq_getElem?, List.getD_eq_getElem?_getD]
      rw [eL] at c1
      have hzl : (path.getLastD ByteArray.empty).size = wid wd := by
        rw [← eL, List.getD_eq_getElem?_getD, List.getElem?_eq_getElem (by omega)]
        exact hW _ (List.getElem_mem _)
      have HWD : Hid (Wide wd path.dropLast) := fun x hx => hW x (by rw [List.dropLast_eq_take] at hx; exact List.mem_of_mem_take hx)
      have hld : path.dropLast.length = path.length - 1 := List.length_dropLast
      obtain ⟨last, HLA⟩ : ∃ x, Hid (path.getLastD ByteArray.empty = x) := ⟨_, rfl⟩
      rw [HLA.out] at c1 hzl
      obtain ⟨m, HM⟩ : ∃ m, Hid (wid wd = m) := ⟨_, rfl⟩
      by_cases g : i < half n
      · have hl1 : path.dropLast.length = cI i (half n) := by rw [cI_low h2 g] at hl; omega
        have IC : Hid (∀ w', Below w.heap.size w w' → Calls _ _ _ _ _) := fun w' hb => ih (half n) hh.2.1 i _ path.dropLast w' g (by omega) hl1 HWD.out (RF.out.later hb) (hT.down hb)
        have hz1 := dl_size hh0 i (half n) path.dropLast
        have HE := dl_low (wd := wd) (hash := hash) (path := path) h2 g
        rw [HE]
        rw [HLA.out]
        obtain ⟨d, HD⟩ : ∃ d, Hid (dl wd hash i (half n) path.dropLast = d) := ⟨_, rfl⟩
        rw [HD.out] at IC hz1 ⊢
        have NC : Hid (∀ w', Tab4 w' → Calls _ _ _ _ _) := fun w' h => rNode ((wid wd : Nat) : Int) d last (by omega) w' h
        rw [NF_wid] at NC
        obtain ⟨r, HRR⟩ : ∃ r, Hid (NF wd d last = r) := ⟨_, rfl⟩
        rw [HRR.out] at NC ⊢
        obtain ⟨k, HK⟩ : ∃ k, Hid (half n = k) := ⟨_, rfl⟩
        rw [HK.out] at SP IC g
        rw [HM.out] at IC NC ⊢
        have HT : Hid (Tab4 w) := hT
        obtain ⟨l, HL⟩ : ∃ l, Hid (path.length = l + 1) := ⟨path.length - 1, by show _ = _; omega⟩
        rw [HL.out] at c1 hcap IC RF h62 ⊢
        rw [Nat.add_sub_cancel] at c1 IC RF
        have z1 : (((l + 1 : Nat) : Int) - 1) = l := by omega
        have z2 : (l : Int) ≤ cap := by omega
        have z3 : (l : Int) < ((l + 1 : Nat) : Int) := by omega
        clear ih hc hh' hl hlp hl1 hld HE eL hz1 hzl h32 hW hh h2 hT
        go_enter Tryd.func62, Tryd.ntmps62
        go_wp2_with fail
        refine (SP.out _).mono ?_
        rintro e w1 ⟨rfl, hw⟩
        subst hw
        go_wp2_with fail
        refine (IC.out _ (Below.refl _ _)).mono ?_
        rintro e w2 ⟨rfl, hb2⟩
        have B2 : Hid (Below w1.heap.size w1 w2) := hb2
        clear hb2
        go_wp2_with fail
        refine (NC.out _ (HT.out.down B2.out)).mono ?_
        rintro e w3 ⟨rfl, hb3⟩
        have B3 : Hid (Below w1.heap.size w1 w3) := over B2.out hb3
        clear hb3
        go_wp2
        go_ret
        exact ⟨rfl, B3.out⟩
      · have hl1 : path.dropLast.length = cI (i - half n) (n - half n) := by rw [cI_high h2 hi g] at hl; omega
        have IC : Hid (∀ w', Below w.heap.size w w' → Calls _ _ _ _ _) := fun w' hb => ih (n - half n) (by omega) (i - half n) _ path.dropLast w' (by omega) (by omega) hl1 HWD.out (RF.out.later hb) (hT.down hb)
        have hz1 := dl_size hh0 (i - half n) (n - half n) path.dropLast
        have HE := dl_high (wd := wd) (hash := hash) (path := path) h2 g
        rw [HE]
        rw [HLA.out]
        obtain ⟨d, HD⟩ : ∃ d, Hid (dl wd hash (i - half n) (n - half n) path.dropLast = d) := ⟨_, rfl⟩
        rw [HD.out] at IC hz1 ⊢
        have NC : Hid (∀ w', Tab4 w' → Calls _ _ _ _ _) := fun w' h => rNode ((wid wd : Nat) : Int) last d (by omega) w' h
        rw [NF_wid] at NC
        obtain ⟨r, HRR⟩ : ∃ r, Hid (NF wd last d = r) := ⟨_, rfl⟩
        rw [HRR.out] at NC ⊢
        obtain ⟨k, HK⟩ : ∃ k, Hid (half n = k) := ⟨_, rfl⟩
        have hkn : half n ≤ i ∧ half n ≤ n := by omega
        rw [HK.out] at SP IC g hkn
        rw [HM.out] at IC NC ⊢
        have HT : Hid (Tab4 w) := hT
        obtain ⟨l, HL⟩ : ∃ l, Hid (path.length = l + 1) := ⟨path.length - 1, by show _ = _; omega⟩
        rw [HL.out] at c1 hcap IC RF h62 ⊢
        rw [Nat.add_sub_cancel] at c1 IC RF
        have z1 : (((l + 1 : Nat) : Int) - 1) = l := by omega
        have z2 : (l : Int) ≤ cap := by omega
        have z3 : (l : Int) < ((l + 1 : Nat) : Int) := by omega
        have z4 : ((i - k : Nat) : Int) = (i : Int) - k := by omega
        have z5 : ((n - k : Nat) : Int) = (n : Int) - k := by omega
        rw [z4, z5] at IC
        have hw4 : IntKind.i64.wrap ((i : Int) - k) = (i : Int) - k := by rw [IntKind.wrap_i64]; omega
        have hw5 : IntKind.i64.wrap ((n : Int) - k) = (n : Int) - k := by rw [IntKind.wrap_i64]; omega
        clear ih hc hh' hl hlp hl1 hld HE eL hz1 hzl h32 hW hh h2 hT
        go_enter Tryd.func62, Tryd.ntmps62
        go_wp2_with fail
        refine (SP.out _).mono ?_
        rintro e w1 ⟨rfl, hw⟩
        subst hw
        go_wp2_with fail
        refine (IC.out _ (Below.refl _ _)).mono ?_
        rintro e w2 ⟨rfl, hb2⟩
        have B2 : Hid (Below w1.heap.size w1 w2) := hb2
        clear hb2
        go_wp2_with fail
        refine (NC.out _ (HT.out.down B2.out)).mono ?_
        rintro e w3 ⟨rfl, hb3⟩
        have B3 : Hid (Below w1.heap.size w1 w3) := over B2.out hb3
        clear hb3
        go_wp2
        go_ret
        exact ⟨rfl, B3.out⟩
    · obtain rfl : n = 1 := by omega
      rw [dl_one h2]
      obtain ⟨a, cap, rfl, hcap, hh'⟩ := hR
      clear ih
      go_enter Tryd.func62, Tryd.ntmps62
      go_wp2
      go_ret
      exact ⟨rfl, Below.refl _ _⟩
end Go.Proofs.YtgkhnjmbmbebiaaDoor.qf

namespace Go.Proofs.YtgkhnjmbmbebiaaDoor.li
open Go.RowKit Go.PlainAid
open Go.Proofs.YtgkhnjmbmbebiaaDoor.pl Go.Proofs.YtgkhnjmbmbebiaaDoor.pi Go.Proofs.YtgkhnjmbmbebiaaDoor.pj Go.Proofs.YtgkhnjmbmbebiaaDoor.rf Go.Proofs.YtgkhnjmbmbebiaaDoor.ca Go.Proofs.YtgkhnjmbmbebiaaDoor.cb Go.Proofs.YtgkhnjmbmbebiaaDoor.cp Go.Proofs.YtgkhnjmbmbebiaaDoor.cv Go.Proofs.YtgkhnjmbmbebiaaDoor.ga Go.Proofs.YtgkhnjmbmbebiaaDoor.aa Go.Proofs.YtgkhnjmbmbebiaaDoor.ka Go.Proofs.YtgkhnjmbmbebiaaDoor.kb Go.Proofs.YtgkhnjmbmbebiaaDoor.kp Go.Proofs.YtgkhnjmbmbebiaaDoor.mi Go.Proofs.YtgkhnjmbmbebiaaDoor.co Go.Proofs.YtgkhnjmbmbebiaaDoor.dc Go.Proofs.YtgkhnjmbmbebiaaDoor.df Go.Proofs.YtgkhnjmbmbebiaaDoor.qb Go.Proofs.YtgkhnjmbmbebiaaDoor.qc Go.Proofs.YtgkhnjmbmbebiaaDoor.qd Go.Proofs.YtgkhnjmbmbebiaaDoor.qe Go.Proofs.YtgkhnjmbmbebiaaDoor.qf Go.Proofs.YtgkhnjmbmbebiaaDoor.ts Go.Proofs.YtgkhnjmbmbebiaaDoor.sk
set_option linter.unusedVariables false

theorem cnt_ok {kind a b n : Int} {xs : List Int} : ((cnt9 kind a b n xs).2 == 0) = decide ((cnt9 kind a b n xs).2 = 0) := rfl
-- the document's two looks
set_option maxHeartbeats 1600000 in
theorem rLeads (wd i n : Int) (hash : ByteArray) (vp : Value) (path : List ByteArray) (w : World) (hp : ReadsT w vp path) (zp : path.length ≤ 140737488355328) (hT : Tab4 w) :
    Calls Tryd.prog 28 #[.int .i64 wd, .int .i64 i, .int .i64 n, .string hash, vp] w fun e w' => e = .returned (.tuple #[.string (leadA wd i n hash path).1, .int .i64 (leadA wd i n hash path).2]) ∧ Below w.heap.size w w' := by
  have CC : Hid (Calls _ _ _ _ _) := rCount 1 i 0 n (.slice none 0 0) [] w (reads_nilI w) (by simp)
  unfold Counted at CC
  have WC : Hid (∀ w, Calls _ _ _ _ _) := fun w => widthD wd w
  have LK : Hid (∀ w', Below w.heap.size w w' → Calls _ _ _ _ _) := fun w' hb => lookedD wd (cnt9 1 i 0 n []).1 vp _ path [hash] (w'.alloc (.cells #[.string hash] 9)) (hp.later (hb.alloc hb.size _)) (text_reads w' hash) zp (by simp)
  have HP : Hid (ReadsT w vp path ∧ Tab4 w) := ⟨hp, hT⟩
  obtain ⟨pa, pc, rfl, _⟩ := hp
  have HA : leadA wd i n hash path = if incR wd i n path [hash] = 0 then (ldP wd i.toNat n.toNat hash path, 0) else (ByteArray.empty, incR wd i n path [hash]) := rfl
  rw [HA]
  have HI : incR wd i n path [hash] = if (cnt9 1 i 0 n []).2 = 0 then rH wd (cnt9 1 i 0 n []).1 path [hash] else (cnt9 1 i 0 n []).2 := rfl
  have LD : Hid (incR wd i n path [hash] = 0 → ∀ w', Below w.heap.size w w' → Calls Tryd.prog 62 #[.int .i64 (wid wd : Nat), .int .i64 i, .int .i64 n, .string hash, .slice pa path.length pc] w' fun e w'' => e = .returned (.string (ldP wd i.toNat n.toNat hash path)) ∧ Below w'.heap.size w' w'') := fun h => by
    obtain ⟨I, N, rfl, rfl, q1, q2, q3, q4, q5⟩ := incR_ok h
    rw [Int.toNat_natCast, Int.toNat_natCast, ldP_is wd I N hash path q1 q3]
    exact fun w' hb => rLead wd hash (q5 hash (by simp)) N I _ path w' q1 q2 q3 q4 (HP.out.1.later hb) (HP.out.2.down hb)
  obtain ⟨c, HC⟩ : ∃ c, Hid (cnt9 1 i 0 n [] = c) := ⟨_, rfl⟩
  obtain ⟨c1, c2⟩ := c
  rw [HC.out] at CC LK HI
  simp only at CC LK HI
  by_cases h : c2 = 0
  · subst h
    rw [if_pos rfl] at HI
    rw [HI] at LD ⊢
    obtain ⟨m, HM⟩ : ∃ m, Hid (wid wd = m) := ⟨_, rfl⟩
    rw [HM.out] at WC LK LD
    obtain ⟨l, HL⟩ : ∃ l, Hid (path.length = l) := ⟨_, rfl⟩
    by_cases h2 : rH wd c1 path [hash] = 0
    · have LC : Hid (∀ w', Below w.heap.size w w' → Calls _ _ _ _ _) := LD.out h2
      rw [if_pos h2]
      rw [h2] at LK
      obtain ⟨x, HX⟩ : ∃ x, Hid (ldP wd i.toNat n.toNat hash path = x) := ⟨_, rfl⟩
      rw [HX.out] at LC ⊢
      rw [HL.out] at LC LK ⊢
      clear HI HA h2 LD
      go_enter Tryd.func28, Tryd.ntmps28
      go_wp2_with fail
      refine CC.out.mono ?_
      rintro e w1 ⟨rfl, hb1⟩
      have B1 : Hid (Below w.heap.size w w1) := hb1
      clear hb1
      go_wp2_with fail
      refine (WC.out _).mono ?_
      rintro e w1' ⟨rfl, hw⟩
      subst hw
      have LK1 : Hid (Calls _ _ _ _ _) := LK.out w1' B1.out
      go_wp2_with fail
      refine LK1.out.mono ?_
      rintro e w2 ⟨rfl, hw⟩
      have B2 : Hid (Below w.heap.size w w2) := by subst hw; exact B1.out.alloc B1.out.size _
      clear hw
      go_wp2_with fail
      refine (LC.out _ B2.out).mono ?_
      rintro e w3 ⟨rfl, hb3⟩
      have B3 : Hid (Below w.heap.size w w3) := over B2.out hb3
      clear hb3
      go_wp2
      go_ret2
      exact ⟨rfl, B3.out⟩
    · rw [if_neg h2]
      have q : (rH wd c1 path [hash] == 0) = false := by rw [beq_eq_false_iff_ne]; exact h2
      obtain ⟨r, HX⟩ : ∃ x, Hid (rH wd c1 path [hash] = x) := ⟨_, rfl⟩
      rw [HX.out] at LK q ⊢
      rw [HL.out] at LK ⊢
      clear HI HA h2 LD
      go_enter Tryd.func28, Tryd.ntmps28
      go_wp2_with fail
      refine CC.out.mono ?_
      rintro e w1 ⟨rfl, hb1⟩
      have B1 : Hid (Below w.heap.size w w1) := hb1
      clear hb1
      go_wp2_with fail
      refine (WC.out _).mono ?_
      rintro e w1' ⟨rfl, hw⟩
      subst hw
      have LK1 : Hid (Calls _ _ _ _ _) := LK.out w1' B1.out
      go_wp2_with fail
      refine LK1.out.mono ?_
      rintro e w2 ⟨rfl, hw⟩
      have B2 : Hid (Below w.heap.size w w2) := by subst hw; exact B1.out.alloc B1.out.size _
      clear hw
      go_wp2
      go_ret2
      exact ⟨rfl, B2.out⟩
  · rw [if_neg h] at HI
    rw [HI, if_neg h]
    have q : (c2 == 0) = false := by rw [beq_eq_false_iff_ne]; exact h
    obtain ⟨l, HL⟩ : ∃ l, Hid (path.length = l) := ⟨_, rfl⟩
    rw [HL.out]
    clear HI HA LD LK h
    go_enter Tryd.func28, Tryd.ntmps28
    go_wp2_with fail
    refine CC.out.mono ?_
    rintro e w1 ⟨rfl, hb1⟩
    have B1 : Hid (Below w.heap.size w w1) := hb1
    clear hb1
    go_wp2
    go_ret2
    exact ⟨rfl, B1.out⟩
set_option maxHeartbeats 1600000 in
theorem rIncl (wd i n : Int) (hash : ByteArray) (vp : Value) (path : List ByteArray) (root : ByteArray) (w : World) (hp : ReadsT w vp path) (zp : path.length ≤ 140737488355328) (hT : Tab4 w) :
    Calls Tryd.prog 29 #[.int .i64 wd, .int .i64 i, .int .i64 n, .string hash, vp, .string root] w fun e w' => e = .returned (.int .i64 (incA wd i n hash path root)) ∧ Below w.heap.size w w' := by
  have CC : Hid (Calls _ _ _ _ _) := rCount 1 i 0 n (.slice none 0 0) [] w (reads_nilI w) (by simp)
  unfold Counted at CC
  have WC : Hid (∀ w, Calls _ _ _ _ _) := fun w => widthD wd w
  have LK : Hid (∀ w', Below w.heap.size w w' → Calls _ _ _ _ _) := fun w' hb => lookedD wd (cnt9 1 i 0 n []).1 vp _ path [hash, root] (w'.alloc (.cells #[.string hash, .string root] 9)) (hp.later (hb.alloc hb.size _)) (two_reads w' hash root) zp (by simp)
  have HP : Hid (ReadsT w vp path ∧ Tab4 w) := ⟨hp, hT⟩
  obtain ⟨pa, pc, rfl, _⟩ := hp
  have HA : incA wd i n hash path root = if incR wd i n path [hash, root] = 0 then (if ldP wd i.toNat n.toNat hash path = root then 0 else 90) else incR wd i n path [hash, root] := rfl
  rw [HA]
  have HI : incR wd i n path [hash, root] = if (cnt9 1 i 0 n []).2 = 0 then rH wd (cnt9 1 i 0 n []).1 path [hash, root] else (cnt9 1 i 0 n []).2 := rfl
  have LD : Hid (incR wd i n path [hash, root] = 0 → ∀ w', Below w.heap.size w w' → Calls Tryd.prog 62 #[.int .i64 (wid wd : Nat), .int .i64 i, .int .i64 n, .string hash, .slice pa path.length pc] w' fun e w'' => e = .returned (.string (ldP wd i.toNat n.toNat hash path)) ∧ Below w'.heap.size w' w'') := fun h => by
    obtain ⟨I, N, rfl, rfl, q1, q2, q3, q4, q5⟩ := incR_ok h
    rw [Int.toNat_natCast, Int.toNat_natCast, ldP_is wd I N hash path q1 q3]
    exact fun w' hb => rLead wd hash (q5 hash (by simp)) N I _ path w' q1 q2 q3 q4 (HP.out.1.later hb) (HP.out.2.down hb)
  obtain ⟨c, HC⟩ : ∃ c, Hid (cnt9 1 i 0 n [] = c) := ⟨_, rfl⟩
  obtain ⟨c1, c2⟩ := c
  rw [HC.out] at CC LK HI
  simp only at CC LK HI
  by_cases h : c2 = 0
  · subst h
    rw [if_pos rfl] at HI
    rw [HI] at LD ⊢
    obtain ⟨m, HM⟩ : ∃ m, Hid (wid wd = m) := ⟨_, rfl⟩
    rw [HM.out] at WC LK LD
    obtain ⟨l, HL⟩ : ∃ l, Hid (path.length = l) := ⟨_, rfl⟩
    by_cases h2 : rH wd c1 path [hash, root] = 0
    · have LC : Hid (∀ w', Below w.heap.size w w' → Calls _ _ _ _ _) := LD.out h2
      rw [if_pos h2]
      rw [h2] at LK
      obtain ⟨x, HX⟩ : ∃ x, Hid (ldP wd i.toNat n.toNat hash path = x) := ⟨_, rfl⟩
      rw [HX.out] at LC ⊢
      rw [HL.out] at LC LK ⊢
      clear HI HA h2 LD
      obtain ⟨z, HZ⟩ : ∃ z : Bool, Hid (decide (x = root) = z) := ⟨_, rfl⟩
      have qz : (x.toList == root.toList) = z := by rw [beqL]; exact HZ.out
      have HE : Hid ((if x = root then (0 : Int) else 90) = if z then 0 else 90) := by
        show _ = _
        rw [← HZ.out]
        by_cases g : x = root <;> simp [g]
      rw [HE.out]
      clear HE HZ
      cases z
      all_goals (
        go_enter Tryd.func29, Tryd.ntmps29
        go_wp2_with fail
        refine CC.out.mono ?_
        rintro e w1 ⟨rfl, hb1⟩
        have B1 : Hid (Below w.heap.size w w1) := hb1
        clear hb1
        go_wp2_with fail
        refine (WC.out _).mono ?_
        rintro e w1' ⟨rfl, hw⟩
        subst hw
        have LK1 : Hid (Calls _ _ _ _ _) := LK.out w1' B1.out
        go_wp2_with fail
        refine LK1.out.mono ?_
        rintro e w2 ⟨rfl, hw⟩
        have B2 : Hid (Below w.heap.size w w2) := by subst hw; exact B1.out.alloc B1.out.size _
        clear hw
        go_wp2_with fail
        refine (LC.out _ B2.out).mono ?_
        rintro e w3 ⟨rfl, hb3⟩
        have B3 : Hid (Below w.heap.size w w3) := over B2.out hb3
        clear hb3
        go_wp2
        go_ret
        exact ⟨by first | rfl | simp, B3.out⟩)
    · rw [if_neg h2]
      have q : (rH wd c1 path [hash, root] == 0) = false := by rw [beq_eq_false_iff_ne]; exact h2
      obtain ⟨r, HX⟩ : ∃ x, Hid (rH wd c1 path [hash, root] = x) := ⟨_, rfl⟩
      rw [HX.out] at LK q ⊢
      rw [HL.out] at LK ⊢
      clear HI HA h2 LD
      go_enter Tryd.func29, Tryd.ntmps29
      go_wp2_with fail
      refine CC.out.mono ?_
      rintro e w1 ⟨rfl, hb1⟩
      have B1 : Hid (Below w.heap.size w w1) := hb1
      clear hb1
      go_wp2_with fail
      refine (WC.out _).mono ?_
      rintro e w1' ⟨rfl, hw⟩
      subst hw
      have LK1 : Hid (Calls _ _ _ _ _) := LK.out w1' B1.out
      go_wp2_with fail
      refine LK1.out.mono ?_
      rintro e w2 ⟨rfl, hw⟩
      have B2 : Hid (Below w.heap.size w w2) := by subst hw; exact B1.out.alloc B1.out.size _
      clear hw
      go_wp2
      go_ret
      exact ⟨rfl, B2.out⟩
  · rw [if_neg h] at HI
    rw [HI, if_neg h]
    have q : (c2 == 0) = false := by rw [beq_eq_false_iff_ne]; exact h
    obtain ⟨l, HL⟩ : ∃ l, Hid (path.length = l) := ⟨_, rfl⟩
    rw [HL.out]
    clear HI HA LD LK h
    go_enter Tryd.func29, Tryd.ntmps29
    go_wp2_with fail
    refine CC.out.mono ?_
    rintro e w1 ⟨rfl, hb1⟩
    have B1 : Hid (Below w.heap.size w w1) := hb1
    clear hb1
    go_wp2
    go_ret
    exact ⟨rfl, B1.out⟩
set_option maxHeartbeats 1600000 in
theorem incl_walk (w : World) (wd : Int) (w0 : (Lit.int .i64 wd).wf = true) (i : Int) (w1 : (Lit.int .i64 i).wf = true) (n : Int) (w2 : (Lit.int .i64 n).wf = true) (hash : ByteArray) (zh : hash.size ≤ 140737488351232) (v : Value) (xs : List ByteArray) (hR : ReadsT w v xs) (hno : ∀ k c, v = .slice none k c → c = 0) (hxs : ∀ x ∈ xs, x.size ≤ 140737488351232) (hz : xs.length * 16 ≤ 140737488351232) (root : ByteArray) (zr : root.size ≤ 140737488351232) (T : Tab4 w) :
    Calls Tryd.prog 6 #[.int .i64 wd, .int .i64 i, .int .i64 n, .string hash, v, .string root] w fun e w' => e = .returned (.bool true) ∧ Below w.heap.size w w' := by
  have TC : Hid (Calls _ _ _ _ _) := twinC v xs w hR hno hz
  have hwd := i64_of w0
  have PL : Hid (∀ w v, ReadsT w v xs → Tab w → Calls _ _ _ _ _) := fun w v h t => LeadsC wd i n hwd hash v xs w h (by omega) t
  have PI : Hid (∀ w v, ReadsT w v xs → Tab w → Calls _ _ _ _ _) := fun w v h t => InclC wd i n hwd hash v xs root w h (by omega) t
  have DL : Hid (∀ w, ReadsT w v xs → Tab4 w → Calls _ _ _ _ _) := fun w h t => rLeads wd i n hash v xs w h (by omega) t
  have DI : Hid (∀ w, ReadsT w v xs → Tab4 w → Calls _ _ _ _ _) := fun w h t => rIncl wd i n hash v xs root w h (by omega) t
  have HR : Hid (ReadsT w v xs ∧ Tab4 w) := ⟨hR, T⟩
  have SC : Hid (∀ B g cp w', Tw w' B g xs.length cp xs → ReadsT w' v xs → Calls _ _ _ _ _) := fun B g cp w' h1 h2 => keptC B g xs.length cp v xs w' rfl h1 h2 (by omega)
  obtain ⟨va, cap, rfl, _⟩ := hR
  obtain ⟨l, HL⟩ : ∃ l, Hid (xs.length = l) := ⟨_, rfl⟩
  obtain ⟨c, HC⟩ : ∃ c, Hid (leadA wd i n hash xs = c) := ⟨_, rfl⟩
  obtain ⟨c1, c2⟩ := c
  obtain ⟨d, HD⟩ : ∃ d, Hid (incA wd i n hash xs root = d) := ⟨_, rfl⟩
  rw [HC.out] at PL DL
  rw [HD.out] at PI DI
  rw [HL.out] at TC HR SC DL DI ⊢
  have q1 : (c1.toList == c1.toList) = true := beq_self_eq_true _
  have q2 : (c2 == c2) = true := beq_self_eq_true _
  have q3 : (d == d) = true := beq_self_eq_true _
  clear hno hz w0 w1 w2 hxs zh zr hwd T
  go_enter Tryd.func6, Tryd.ntmps6
  go_wp2_with fail
  refine TC.out.mono ?_
  rintro e w1 ⟨⟨g, cp, rfl, ht⟩, hb1⟩
  have B1 : Hid (Below w.heap.size w w1) := hb1
  have T1 : Hid (Tw w1 w.heap.size g l cp xs) := ht
  clear ht hb1
  go_wp2_with fail
  refine (PL.out _ _ (T1.out.reads HL.out) (HR.out.2.down B1.out).t).mono ?_
  rintro e w2 ⟨rfl, hb2⟩
  have B2 : Hid (Below w.heap.size w w2) := over B1.out hb2
  have T2 : Hid (Tw w2 w.heap.size g l cp xs) := T1.out.later hb2
  clear hb2
  go_wp2_with fail
  refine (DL.out _ (HR.out.1.later B2.out) (HR.out.2.down B2.out)).mono ?_
  rintro e w3 ⟨rfl, hb3⟩
  have B3 : Hid (Below w.heap.size w w3) := over B2.out hb3
  have T3 : Hid (Tw w3 w.heap.size g l cp xs) := T2.out.later hb3
  clear hb3
  go_wp2_with fail
  refine (PI.out _ _ (T3.out.reads HL.out) (HR.out.2.down B3.out).t).mono ?_
  rintro e w4 ⟨rfl, hb4⟩
  have B4 : Hid (Below w.heap.size w w4) := over B3.out hb4
  have T4 : Hid (Tw w4 w.heap.size g l cp xs) := T3.out.later hb4
  clear hb4
  go_wp2_with fail
  refine (DI.out _ (HR.out.1.later B4.out) (HR.out.2.down B4.out)).mono ?_
  rintro e w5 ⟨rfl, hb5⟩
  have B5 : Hid (Below w.heap.size w w5) := over B4.out hb5
  have T5 : Hid (Tw w5 w.heap.size g l cp xs) := T4.out.later hb5
  clear hb5
  go_wp2_with fail
  refine (SC.out _ g cp _ T5.out (HR.out.1.later B5.out)).mono ?_
  rintro e w6 ⟨rfl, m, hw⟩
  have B6 : Hid (Below w.heap.size w w6) := by subst hw; exact over B5.out (below_dw _ _)
  clear hw
  go_wp2
  go_ret
  exact ⟨by first | rfl | simp, B6.out⟩
end Go.Proofs.YtgkhnjmbmbebiaaDoor.li
