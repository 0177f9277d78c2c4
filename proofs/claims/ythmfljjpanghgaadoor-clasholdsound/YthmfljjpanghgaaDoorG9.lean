import Derived.Test.YthmfljjpanghgaaDoorG6
namespace Go.Proofs.YthmfljjpanghgaaDoor.qm
open Go.RowKit Go.PlainAid
open Go.Proofs.YthmfljjpanghgaaDoor.pl Go.Proofs.YthmfljjpanghgaaDoor.pi Go.Proofs.YthmfljjpanghgaaDoor.pj Go.Proofs.YthmfljjpanghgaaDoor.rf Go.Proofs.YthmfljjpanghgaaDoor.ca Go.Proofs.YthmfljjpanghgaaDoor.cb Go.Proofs.YthmfljjpanghgaaDoor.cp Go.Proofs.YthmfljjpanghgaaDoor.ga Go.Proofs.YthmfljjpanghgaaDoor.aa Go.Proofs.YthmfljjpanghgaaDoor.ka Go.Proofs.YthmfljjpanghgaaDoor.kb Go.Proofs.YthmfljjpanghgaaDoor.kp Go.Proofs.YthmfljjpanghgaaDoor.lk Go.Proofs.YthmfljjpanghgaaDoor.mi Go.Proofs.YthmfljjpanghgaaDoor.lm Go.Proofs.YthmfljjpanghgaaDoor.co Go.Proofs.YthmfljjpanghgaaDoor.cn Go.Proofs.YthmfljjpanghgaaDoor.qa Go.Proofs.YthmfljjpanghgaaDoor.qb Go.Proofs.YthmfljjpanghgaaDoor.qc Go.Proofs.YthmfljjpanghgaaDoor.qg Go.Proofs.YthmfljjpanghgaaDoor.qj
set_option linter.unusedVariables false

-- what is answered, once the numbers are right
def seen (wd : Int) (lk : Nat → Nat → Nat) (n : Nat) (count : Int) (hs proof : List ByteArray) (root : ByteArray) : Int :=
  if rH wd count proof (root :: hs) = 0 then (if (gp wd lk hs proof 0 n).1 = root then 0 else 90) else rH wd count proof (root :: hs)
theorem okH_cons (wd : Int) (x : ByteArray) (l : List ByteArray) : okH wd (x :: l) = (okH wd [x] && okH wd l) := by
  unfold okH
  simp
theorem seen_is (wd : Int) (lk : Nat → Nat → Nat) (cur : Nat → Nat) (n : Nat) (count : Int) (hs proof : List ByteArray) (root : ByteArray) : lookA wd lk cur n count hs proof root = seen wd lk n count hs proof root := by
  unfold lookA seen rk
  rw [(go_gp wd lk cur n 0 n (cur 0) hs proof rfl).1]
  have e : rH wd count proof (root :: hs) = if okH wd hs = true then rH wd count proof [root] else 72 := by
    unfold rH
    rw [okH_cons wd root hs]
    cases okH wd hs <;> cases okH wd [root] <;> cases okH wd proof <;> rfl
  rw [e]
  by_cases h : okH wd hs = true
  · rw [if_pos h, if_pos h]
  · rw [if_neg h, if_neg h, if_neg (by decide)]
def mulA (wd n : Int) (xs : List Int) (hs proof : List ByteArray) (root : ByteArray) : Int :=
  if (cnt9 4 0 0 n xs).2 = 0 then (if hs.length = xs.length then seen wd (lkM (natL xs)) n.toNat (cnt9 4 0 0 n xs).1 hs proof root else 71) else (cnt9 4 0 0 n xs).2
theorem mul_ok {n : Int} {xs : List Int} (h : (cnt9 4 0 0 n xs).2 = 0) : ∃ N : Nat, n = N ∧ 1 ≤ N ∧ N ≤ 4611686018427387904 ∧ places xs n = 0 ∧ cnt9 4 0 0 n xs = ((((WL (lkM (natL xs)) 0 N).length : Nat) : Int), 0) := by
  by_cases h0 : ref9 4 0 0 n xs = 0
  · have hc : cnt9 4 0 0 n xs = (((num9 4 0 0 n xs : Nat) : Int), 0) := by unfold cnt9; rw [if_pos h0]
    unfold ref9 at h0
    rw [if_neg (by omega)] at h0
    by_cases k2 : n < 0 ∨ 4611686018427387904 < n
    · rw [if_pos k2] at h0; omega
    rw [if_neg k2, if_neg (by omega), if_neg (by omega), if_neg (by omega)] at h0
    obtain ⟨N, rfl⟩ : ∃ A : Nat, n = A := ⟨n.toNat, by omega⟩
    obtain ⟨p1, p2, p3, p4⟩ := places_ok h0
    have := p3 0 (by omega)
    refine ⟨N, rfl, by omega, by omega, h0, ?_⟩
    rw [hc]
    unfold num9
    rw [if_neg (by omega), if_neg (by omega), if_neg (by omega), Int.toNat_natCast]
  · have hc : cnt9 4 0 0 n xs = (0, ref9 4 0 0 n xs) := by unfold cnt9; rw [if_neg h0]
    rw [hc] at h
    exact absurd h h0
set_option maxHeartbeats 3200000 in
theorem MultiC (wd n : Int) (hwd : i64 wd) (v : Value) (xs : List Int) (vh vp : Value) (hs proof : List ByteArray) (root : ByteArray) (w : World) (hv : ReadsI w v xs) (hh : ReadsT w vh hs) (hp : ReadsT w vp proof) (zx : xs.length ≤ 140737488355328) (zh : hs.length ≤ 140737488355328) (zp : proof.length ≤ 140737488355328) (hT : Tab w) :
    Calls Tryd.prog 8 #[.int .i64 wd, .int .i64 n, v, vh, vp, .string root] w fun e w' => e = .returned (.int .i64 (mulA wd n xs hs proof root)) ∧ Below w.heap.size w w' := by
  have CC : Hid (Calls _ _ _ _ _) := countC 4 0 0 n v xs w hv zx
  have OH : Hid (Old w.heap.size w vh hs ∧ Old w.heap.size w vp proof ∧ ReadsI w v xs ∧ Tab w) := ⟨Old.of hh, Old.of hp, hv, hT⟩
  obtain ⟨va, vc, rfl, _⟩ := hv
  obtain ⟨ha, hc, rfl, _⟩ := hh
  obtain ⟨pa, pc, rfl, _⟩ := hp
  unfold mulA
  by_cases h : (cnt9 4 0 0 n xs).2 = 0
  · obtain ⟨N, rfl, n1, n2, n3, n4⟩ := mul_ok h
    rw [if_pos h, Int.toNat_natCast, n4]
    rw [n4] at CC
    simp only at CC ⊢
    have hr := ris_of n3
    obtain ⟨p1, p2, p3, p4⟩ := places_ok n3
    by_cases h2 : hs.length = xs.length
    · rw [if_pos h2]
      have MC : Hid (∀ w, Calls _ _ _ _ _) := fun w => multiC va xs.length vc w
      have LC : Hid (∀ w1, Below w.heap.size w w1 → Calls Tryd.prog 32 #[.int .i64 wd, .int .i64 N, .int .i64 ((WL (lkM (natL xs)) 0 N).length : Nat), .func (.func 71) #[] #[.pointer (some ⟨w1.heap.size, 0, none⟩)], .slice ha hs.length hc, .slice pa proof.length pc, .string root] (w1.alloc (.cells #[.slice va xs.length vc] 22)) fun e w' => e = .returned (.int .i64 (seen wd (lkM (natL xs)) N ((WL (lkM (natL xs)) 0 N).length : Nat) hs proof root)) ∧ Below w.heap.size w w') := by
        intro w1 hb1
        obtain ⟨g, hg, hS⟩ := SM_new hr (OH.out.2.2.1.later hb1) p1
        have b2 : Below w1.heap.size w1 (w1.alloc (.cells #[.slice va xs.length vc] 22)) := (Below.refl _ _).alloc (Nat.le_refl _) _
        have hb2 := over hb1 b2
        have kk : Kp no w (w1.alloc (.cells #[.slice va xs.length vc] 22)) := Kp.of_below hb2
        have hcl := claimsM hr N 0 N rfl (by omega)
        rw [cnt_zero hr, cnt_all hr (fun j hj => (p3 j hj).2)] at hcl
        have z := lookC (ShM w1.heap.size g xs hr (fun j hj => by have := (p3 j hj).2; omega)) wd hwd N w.heap.size _ _ hs proof root n1 n2 _ hS (OH.out.1.keep kk (fun _ e => e.elim)) (OH.out.2.1.keep kk (fun _ e => e.elim)) zh zp (OH.out.2.2.2.down hb2) OH.out.2.2.2.big hb2.size (fun b e => by subst e; exact hb1.size) (by omega)
        rw [seen_is] at z
        exact z.mono fun e w' q => ⟨q.1, hb2.trans q.2⟩
      obtain ⟨r, HRR⟩ : ∃ r, Hid (seen wd (lkM (natL xs)) N ((WL (lkM (natL xs)) 0 N).length : Nat) hs proof root = r) := ⟨_, rfl⟩
      rw [HRR.out] at LC ⊢
      obtain ⟨cn, HCN⟩ : ∃ c, Hid ((WL (lkM (natL xs)) 0 N).length = c) := ⟨_, rfl⟩
      rw [HCN.out] at CC LC
      rw [h2] at LC ⊢
      obtain ⟨l, HL⟩ : ∃ l, Hid (xs.length = l) := ⟨_, rfl⟩
      obtain ⟨lp, HLP⟩ : ∃ l, Hid (proof.length = l) := ⟨_, rfl⟩
      rw [HL.out] at CC LC MC ⊢
      rw [HLP.out] at LC ⊢
      have q : ((l : Int) == l) = true := beq_self_eq_true _
      clear OH h n3 n4 hr p1 p2 p3 p4 h2 zx zh zp hT hwd n1 n2
      go_enter Tryd.func8, Tryd.ntmps8
      go_wp2_with fail
      refine CC.out.mono ?_
      rintro e w1 ⟨rfl, hb1⟩
      have B1 : Hid (Below w.heap.size w w1) := hb1
      clear hb1
      go_wp2_with fail
      refine (MC.out _).mono ?_
      rintro e w2 ⟨rfl, hw⟩
      have LC1 : Hid (Calls _ _ _ _ _) := LC.out w1 B1.out
      rw [← hw] at LC1
      clear hw
      go_wp2_with fail
      refine LC1.out.mono ?_
      rintro e w3 ⟨rfl, hb3⟩
      have B3 : Hid (Below w.heap.size w w3) := hb3
      clear hb3
      go_wp2
      go_ret
      exact ⟨rfl, B3.out⟩
    · rw [if_neg h2]
      have q : ((hs.length : Int) == xs.length) = false := by rw [beq_eq_false_iff_ne]; omega
      have q2 : (hs.length == xs.length) = false := by rw [beq_eq_false_iff_ne]; exact h2
      obtain ⟨l, HL⟩ : ∃ l, Hid (xs.length = l) := ⟨_, rfl⟩
      obtain ⟨lh, HLH⟩ : ∃ l, Hid (hs.length = l) := ⟨_, rfl⟩
      obtain ⟨lp, HLP⟩ : ∃ l, Hid (proof.length = l) := ⟨_, rfl⟩
      obtain ⟨cn, HCN⟩ : ∃ c, Hid ((WL (lkM (natL xs)) 0 N).length = c) := ⟨_, rfl⟩
      rw [HCN.out] at CC
      rw [HL.out] at CC h2 q q2 ⊢
      rw [HLH.out] at h2 q q2 ⊢
      rw [HLP.out]
      clear OH h n3 n4 hr p1 p2 p3 p4 zx zh zp hT hwd
      go_enter Tryd.func8, Tryd.ntmps8
      go_wp2_with fail
      refine CC.out.mono ?_
      rintro e w1 ⟨rfl, hb1⟩
      have B1 : Hid (Below w.heap.size w w1) := hb1
      clear hb1
      go_wp2
      go_ret
      exact ⟨rfl, B1.out⟩
  · rw [if_neg h]
    obtain ⟨c, HC⟩ : ∃ c, Hid (cnt9 4 0 0 n xs = c) := ⟨_, rfl⟩
    obtain ⟨c1, c2⟩ := c
    rw [HC.out] at CC h ⊢
    simp only at CC h ⊢
    have q : (c2 == 0) = false := by rw [beq_eq_false_iff_ne]; exact h
    obtain ⟨l, HL⟩ : ∃ l, Hid (xs.length = l) := ⟨_, rfl⟩
    obtain ⟨lh, HLH⟩ : ∃ l, Hid (hs.length = l) := ⟨_, rfl⟩
    obtain ⟨lp, HLP⟩ : ∃ l, Hid (proof.length = l) := ⟨_, rfl⟩
    rw [HL.out] at CC ⊢
    rw [HLH.out, HLP.out]
    clear OH h zx zh zp hT hwd
    go_enter Tryd.func8, Tryd.ntmps8
    go_wp2_with fail
    refine CC.out.mono ?_
    rintro e w1 ⟨rfl, hb1⟩
    have B1 : Hid (Below w.heap.size w w1) := hb1
    clear hb1
    go_wp2
    go_ret
    exact ⟨rfl, B1.out⟩
end Go.Proofs.YthmfljjpanghgaaDoor.qm

namespace Go.Proofs.YthmfljjpanghgaaDoor.za
open Go.RowKit Go.PlainAid
open Go.Proofs.YthmfljjpanghgaaDoor.pl Go.Proofs.YthmfljjpanghgaaDoor.pi Go.Proofs.YthmfljjpanghgaaDoor.pj Go.Proofs.YthmfljjpanghgaaDoor.rf Go.Proofs.YthmfljjpanghgaaDoor.ca Go.Proofs.YthmfljjpanghgaaDoor.cb Go.Proofs.YthmfljjpanghgaaDoor.cp Go.Proofs.YthmfljjpanghgaaDoor.ga Go.Proofs.YthmfljjpanghgaaDoor.aa Go.Proofs.YthmfljjpanghgaaDoor.ka Go.Proofs.YthmfljjpanghgaaDoor.kb Go.Proofs.YthmfljjpanghgaaDoor.kc Go.Proofs.YthmfljjpanghgaaDoor.kp Go.Proofs.YthmfljjpanghgaaDoor.lk Go.Proofs.YthmfljjpanghgaaDoor.mi Go.Proofs.YthmfljjpanghgaaDoor.lm Go.Proofs.YthmfljjpanghgaaDoor.co Go.Proofs.YthmfljjpanghgaaDoor.cn Go.Proofs.YthmfljjpanghgaaDoor.qa Go.Proofs.YthmfljjpanghgaaDoor.qb Go.Proofs.YthmfljjpanghgaaDoor.qc Go.Proofs.YthmfljjpanghgaaDoor.qg Go.Proofs.YthmfljjpanghgaaDoor.qj Go.Proofs.YthmfljjpanghgaaDoor.qm
set_option linter.unusedVariables false

-- a node's text, and the texts of a reckoning from its leaves up
def nt (l r : ByteArray) : ByteArray := (⟨#[1]⟩ : ByteArray) ++ l ++ r
theorem NF_nt (wd : Int) (l r : ByteArray) : NF wd l r = cutS (nt l r) wd := rfl
def tx (wd : Int) (lk : Nat → Nat → Nat) (c p : List ByteArray) (a b : Nat) : List ByteArray :=
  if h : 2 ≤ lk a b ∧ 2 ≤ b - a then
    tx wd lk c p a (a + half (b - a)) ++ (tx wd lk (gp wd lk c p a (a + half (b - a))).2.1 (gp wd lk c p a (a + half (b - a))).2.2 (a + half (b - a)) b ++ [nt (gp wd lk c p a (a + half (b - a))).1 (gp wd lk (gp wd lk c p a (a + half (b - a))).2.1 (gp wd lk c p a (a + half (b - a))).2.2 (a + half (b - a)) b).1])
  else []
termination_by b - a
decreasing_by all_goals (have := half_lt h.2; omega)
theorem tx_stop {wd : Int} {lk : Nat → Nat → Nat} {c p : List ByteArray} {a b : Nat} (h : lk a b < 2) : tx wd lk c p a b = [] := by rw [tx, dif_neg (by omega)]
theorem tx_in {wd : Int} {lk : Nat → Nat → Nat} {c p : List ByteArray} {a b : Nat} (h : 2 ≤ lk a b) (h2 : 2 ≤ b - a) : tx wd lk c p a b = tx wd lk c p a (a + half (b - a)) ++ (tx wd lk (gp wd lk c p a (a + half (b - a))).2.1 (gp wd lk c p a (a + half (b - a))).2.2 (a + half (b - a)) b ++ [nt (gp wd lk c p a (a + half (b - a))).1 (gp wd lk (gp wd lk c p a (a + half (b - a))).2.1 (gp wd lk c p a (a + half (b - a))).2.2 (a + half (b - a)) b).1]) := by rw [tx, dif_pos ⟨h, h2⟩]
theorem nt_size (l r : ByteArray) : (nt l r).size = 1 + l.size + r.size := by unfold nt; rw [ByteArray.size_append, ByteArray.size_append]; rfl
theorem ba_append_inj {a b c d : ByteArray} (h : a ++ b = c ++ d) (e : a.size = c.size) : a = c ∧ b = d := by
  have h1 := congrArg (fun x : ByteArray => x.data.toList) h
  simp only [ByteArray.data_append, Array.toList_append] at h1
  have e1 : a.data.toList.length = c.data.toList.length := by rw [Array.length_toList, Array.length_toList]; exact e
  obtain ⟨q1, q2⟩ := List.append_inj h1 e1
  exact ⟨ByteArray.ext (Array.ext' q1), ByteArray.ext (Array.ext' q2)⟩
theorem nt_inj {l r l' r' : ByteArray} (h : nt l r = nt l' r') (e : l.size = l'.size) : l = l' ∧ r = r' := by
  unfold nt at h
  obtain ⟨h1, h2⟩ := ba_append_inj h (by rw [ByteArray.size_append, ByteArray.size_append, e])
  exact ⟨(ba_append_inj h1 rfl).2, h2⟩
-- two unlike texts with one hash, at one place
def clA (wd : Int) (a b : List ByteArray) : Prop := ∃ i, i < a.length ∧ i < b.length ∧ a.getD i ByteArray.empty ≠ b.getD i ByteArray.empty ∧ cutS (a.getD i ByteArray.empty) wd = cutS (b.getD i ByteArray.empty) wd
theorem clA_left {wd : Int} {a b c d : List ByteArray} (h : clA wd a b) : clA wd (a ++ c) (b ++ d) := by
  obtain ⟨i, h1, h2, h3, h4⟩ := h
  refine ⟨i, by rw [List.length_append]; omega, by rw [List.length_append]; omega, ?_⟩
  rw [List.getD_eq_getElem?_getD, List.getD_eq_getElem?_getD, List.getElem?_append_left h1, List.getElem?_append_left h2, ← List.getD_eq_getElem?_getD, ← List.getD_eq_getElem?_getD]
  exact ⟨h3, h4⟩
theorem clA_right {wd : Int} {a b c d : List ByteArray} (e : a.length = b.length) (h : clA wd c d) : clA wd (a ++ c) (b ++ d) := by
  obtain ⟨i, h1, h2, h3, h4⟩ := h
  refine ⟨a.length + i, by rw [List.length_append]; omega, by rw [List.length_append]; omega, ?_⟩
  rw [List.getD_eq_getElem?_getD, List.getD_eq_getElem?_getD, List.getElem?_append_right (by omega), List.getElem?_append_right (by omega), Nat.add_sub_cancel_left, show a.length + i - b.length = i by omega, ← List.getD_eq_getElem?_getD, ← List.getD_eq_getElem?_getD]
  exact ⟨h3, h4⟩
theorem clA_one {wd : Int} {x y : ByteArray} (h : x ≠ y) (e : cutS x wd = cutS y wd) : clA wd [x] [y] := ⟨0, by simp, by simp, h, e⟩
theorem tx_len (wd : Int) (lk : Nat → Nat → Nat) (n : Nat) : ∀ a b c p c' p', b - a = n → (tx wd lk c p a b).length = (tx wd lk c' p' a b).length := by
  induction n using Nat.strongRecOn with
  | ind n ih =>
    intro a b c p c' p' hn
    by_cases h : 2 ≤ lk a b ∧ 2 ≤ b - a
    · have hh := half_lt h.2
      rw [tx_in h.1 h.2, tx_in h.1 h.2]
      simp only [List.length_append, List.length_cons, List.length_nil]
      have i1 := ih (half (b - a)) (by omega) a (a + half (b - a)) c p c' p' (by omega)
      have i2 := fun c p c' p' => ih (b - a - half (b - a)) (by omega) (a + half (b - a)) b c p c' p' (by omega)
      rw [i1, i2]
    · rw [tx, dif_neg h, tx, dif_neg h]
theorem gp_size (wd : Int) {lk : Nat → Nat → Nat} (hw : ∀ {a b}, a < b → 2 ≤ lk a b → 2 ≤ b - a) (hf : ∀ a b, lk a b ≤ 3) {a b : Nat} (hab : a < b) {c p : List ByteArray} (hc : Wide wd c) (hp : Wide wd p) (lc : (WL (fl lk) a b).length ≤ c.length) (lp : (WL lk a b).length ≤ p.length) : (gp wd lk c p a b).1.size = wid wd := by
  have h3 := hf a b
  by_cases h0 : lk a b = 0
  · rw [WL_take (lk := fl lk) (by unfold fl; rw [if_pos h0])] at lc
    rw [gp_claim h0]
    cases c with
    | nil => simp at lc
    | cons x t => exact hc x (by simp)
  by_cases h1 : lk a b = 1
  · rw [WL_take h1] at lp
    rw [gp_proof h1]
    cases p with
    | nil => simp at lp
    | cons x t => exact hp x (by simp)
  have h2 := hw hab (by omega)
  by_cases h4 : lk a b = 2
  · rw [gp_left h4 h2]; exact NF_size _ _ _
  · rw [gp_right (by omega) h2]; exact NF_size _ _ _
theorem wide_drop {wd : Int} {c : List ByteArray} (h : Wide wd c) (k : Nat) : Wide wd (c.drop k) := fun x hx => h x (List.mem_of_mem_drop hx)
theorem take_more {c c' : List ByteArray} {i j : Nat} (h1 : c.take i = c'.take i) (h2 : (c.drop i).take j = (c'.drop i).take j) : c.take (i + j) = c'.take (i + j) := by
  rw [List.take_add, List.take_add, h1, h2]
-- the plain half of the promise: one root, no clash, then one claim
theorem sound (wd : Int) {lk : Nat → Nat → Nat} (hw : ∀ {a b}, a < b → 2 ≤ lk a b → 2 ≤ b - a) (hf : ∀ a b, lk a b ≤ 2) (n : Nat) : ∀ a b c p c' p', b - a = n → a < b → Wide wd c → Wide wd p → Wide wd c' → Wide wd p' → (WL (fl lk) a b).length ≤ c.length → (WL lk a b).length ≤ p.length → (WL (fl lk) a b).length ≤ c'.length → (WL lk a b).length ≤ p'.length →
    (gp wd lk c p a b).1 = (gp wd lk c' p' a b).1 → ¬ clA wd (tx wd lk c p a b) (tx wd lk c' p' a b) → c.take (WL (fl lk) a b).length = c'.take (WL (fl lk) a b).length ∧ p.take (WL lk a b).length = p'.take (WL lk a b).length := by
  induction n using Nat.strongRecOn with
  | ind n ih =>
    intro a b c p c' p' hn hab w1 w2 w3 w4 l1 l2 l3 l4 he hcl
    have h3 := hf a b
    by_cases h0 : lk a b = 0
    · rw [gp_claim h0, gp_claim h0] at he
      rw [WL_take (lk := fl lk) (by unfold fl; rw [if_pos h0])] at l1 l3 ⊢
      rw [WL_pass h0]
      refine ⟨?_, rfl⟩
      cases c with
      | nil => simp at l1
      | cons x t =>
        cases c' with
        | nil => simp at l3
        | cons y u =>
          have e : x = y := he
          subst e
          rfl
    by_cases h1 : lk a b = 1
    · rw [gp_proof h1, gp_proof h1] at he
      rw [WL_take h1] at l2 l4 ⊢
      rw [WL_pass (lk := fl lk) (by unfold fl; rw [if_neg (by omega), if_pos h1])]
      refine ⟨rfl, ?_⟩
      cases p with
      | nil => simp at l2
      | cons x t =>
        cases p' with
        | nil => simp at l4
        | cons y u =>
          have e : x = y := he
          subst e
          rfl
    have h2 := hw hab (by omega)
    have hh := half_lt h2
    have h4 : lk a b = 2 := by omega
    have hf3 : ∀ a b, lk a b ≤ 3 := fun a b => Nat.le_trans (hf a b) (by decide)
    rw [WL_left (lk := fl lk) (by rw [fl_two (by omega)]; exact h4) h2, List.length_append] at l1 l3 ⊢
    rw [WL_left h4 h2, List.length_append] at l2 l4 ⊢
    have s1 := gp_state wd hw hf3 (show a < a + half (b - a) by omega) c p
    have s2 := gp_state wd hw hf3 (show a < a + half (b - a) by omega) c' p'
    rw [gp_left h4 h2, gp_left h4 h2] at he
    rw [tx_in (by omega) h2, tx_in (by omega) h2] at hcl
    rw [s1, s2] at he hcl
    simp only at he hcl
    have z1 := gp_size wd hw hf3 (show a < a + half (b - a) by omega) w1 w2 (by omega) (by omega)
    have z2 := gp_size wd hw hf3 (show a < a + half (b - a) by omega) w3 w4 (by omega) (by omega)
    have tl := tx_len wd lk (half (b - a)) a (a + half (b - a)) c p c' p' (by omega)
    have tr := tx_len wd lk (b - a - half (b - a)) (a + half (b - a)) b (c.drop (WL (fl lk) a (a + half (b - a))).length) (p.drop (WL lk a (a + half (b - a))).length) (c'.drop (WL (fl lk) a (a + half (b - a))).length) (p'.drop (WL lk a (a + half (b - a))).length) (by omega)
    have hne := Classical.byContradiction fun hne => hcl (clA_right tl (clA_right tr (clA_one hne he)))
    obtain ⟨e1, e2⟩ := nt_inj hne (by rw [z1, z2])
    obtain ⟨i1, i2⟩ := ih (half (b - a)) (by omega) a (a + half (b - a)) c p c' p' (by omega) (by omega) w1 w2 w3 w4 (by omega) (by omega) (by omega) (by omega) e1 (fun h => hcl (clA_left h))
    obtain ⟨j1, j2⟩ := ih (b - a - half (b - a)) (by omega) (a + half (b - a)) b _ _ _ _ (by omega) (by omega) (wide_drop w1 _) (wide_drop w2 _) (wide_drop w3 _) (wide_drop w4 _) (by rw [List.length_drop]; omega) (by rw [List.length_drop]; omega) (by rw [List.length_drop]; omega) (by rw [List.length_drop]; omega) e2 (fun h => hcl (clA_right tl (clA_left h)))
    exact ⟨take_more i1 j1, take_more i2 j2⟩
theorem two_M (ps : List Nat) (a b : Nat) : lkM ps a b ≤ 2 := by
  unfold lkM
  split
  · split <;> omega
  · omega
-- the law's own: two accepted claims, unlike, clash
theorem sound_mul {wd n : Int} {xs : List Int} {hs proof hs' proof' : List ByteArray} {root : ByteArray} (h1 : mulA wd n xs hs proof root = 0) (h2 : mulA wd n xs hs' proof' root = 0) (hu : ¬ (hs = hs' ∧ proof = proof')) :
    (gp wd (lkM (natL xs)) hs proof 0 n.toNat).1 = root ∧ (gp wd (lkM (natL xs)) hs' proof' 0 n.toNat).1 = root ∧ clA wd (tx wd (lkM (natL xs)) hs proof 0 n.toNat) (tx wd (lkM (natL xs)) hs' proof' 0 n.toNat) := by
  have key : ∀ {hs proof}, mulA wd n xs hs proof root = 0 → (cnt9 4 0 0 n xs).2 = 0 ∧ hs.length = xs.length ∧ Wide wd hs ∧ Wide wd proof ∧ (proof.length : Int) = (cnt9 4 0 0 n xs).1 ∧ (gp wd (lkM (natL xs)) hs proof 0 n.toNat).1 = root := by
    intro hs proof h
    unfold mulA at h
    by_cases g0 : (cnt9 4 0 0 n xs).2 = 0
    · rw [if_pos g0] at h
      by_cases g1 : hs.length = xs.length
      · rw [if_pos g1] at h
        unfold qm.seen at h
        by_cases g2 : rH wd (cnt9 4 0 0 n xs).1 proof (root :: hs) = 0
        · rw [if_pos g2] at h
          have g3 : (gp wd (lkM (natL xs)) hs proof 0 n.toNat).1 = root := by
            by_cases g : (gp wd (lkM (natL xs)) hs proof 0 n.toNat).1 = root
            · exact g
            · rw [if_neg g] at h; omega
          unfold rH at g2
          by_cases q : (okH wd (root :: hs) && okH wd proof) = true
          · rw [if_pos q] at g2
            rw [Bool.and_eq_true] at q
            have q1 := okH_wide q.1
            by_cases q2 : (proof.length : Int) = (cnt9 4 0 0 n xs).1
            · exact ⟨g0, g1, fun x hx => q1 x (List.mem_cons_of_mem _ hx), okH_wide q.2, q2, g3⟩
            · rw [if_neg q2] at g2; omega
          · rw [if_neg q] at g2; omega
        · rw [if_neg g2] at h; exact absurd h g2
      · rw [if_neg g1] at h; omega
    · rw [if_neg g0] at h; exact absurd h g0
  obtain ⟨k0, k1, k2, k3, k4, k5⟩ := key h1
  obtain ⟨_, m1, m2, m3, m4, m5⟩ := key h2
  refine ⟨k5, m5, Classical.byContradiction fun hcl => hu ?_⟩
  obtain ⟨N, rfl, n1, n2, n3, n4⟩ := mul_ok k0
  rw [n4] at k4 m4
  rw [Int.toNat_natCast] at k5 m5 hcl
  have hr := ris_of n3
  obtain ⟨p1, p2, p3, p4⟩ := places_ok n3
  have hcl2 := claimsM hr N 0 N rfl (by omega)
  rw [cnt_zero hr, cnt_all hr (fun j hj => (p3 j hj).2)] at hcl2
  have lp : proof.length = (WL (lkM (natL xs)) 0 N).length := by have := k4; simp only at this; omega
  have lp' : proof'.length = (WL (lkM (natL xs)) 0 N).length := by have := m4; simp only at this; omega
  have lh : hs.length = (WL (fl (lkM (natL xs))) 0 N).length := by omega
  have lh' : hs'.length = (WL (fl (lkM (natL xs))) 0 N).length := by omega
  obtain ⟨e1, e2⟩ := sound wd (lk := lkM (natL xs)) wideM (two_M _) N 0 N hs proof hs' proof' rfl (by omega) k2 k3 m2 m3 (by omega) (by omega) (by omega) (by omega) (by rw [k5, m5]) hcl
  rw [← lh, List.take_length, lh, ← lh', List.take_length] at e1
  rw [← lp, List.take_length, lp, ← lp', List.take_length] at e2
  exact ⟨e1, e2⟩
end Go.Proofs.YthmfljjpanghgaaDoor.za
