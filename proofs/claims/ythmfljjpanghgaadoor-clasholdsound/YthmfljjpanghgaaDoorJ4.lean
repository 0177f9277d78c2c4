import Derived.Test.YthmfljjpanghgaaDoorJ3
import Derived.Test.YthmfljjpanghgaaDoorJ1
namespace Go.Proofs.YthmfljjpanghgaaDoor.zk
open Go.RowKit Go.PlainAid
open Go.Proofs.YthmfljjpanghgaaDoor.pl Go.Proofs.YthmfljjpanghgaaDoor.pi Go.Proofs.YthmfljjpanghgaaDoor.pj Go.Proofs.YthmfljjpanghgaaDoor.rf Go.Proofs.YthmfljjpanghgaaDoor.ca Go.Proofs.YthmfljjpanghgaaDoor.cb Go.Proofs.YthmfljjpanghgaaDoor.cp Go.Proofs.YthmfljjpanghgaaDoor.ga Go.Proofs.YthmfljjpanghgaaDoor.gb Go.Proofs.YthmfljjpanghgaaDoor.aa Go.Proofs.YthmfljjpanghgaaDoor.ka Go.Proofs.YthmfljjpanghgaaDoor.kb Go.Proofs.YthmfljjpanghgaaDoor.kc Go.Proofs.YthmfljjpanghgaaDoor.kp Go.Proofs.YthmfljjpanghgaaDoor.lk Go.Proofs.YthmfljjpanghgaaDoor.mi Go.Proofs.YthmfljjpanghgaaDoor.lm Go.Proofs.YthmfljjpanghgaaDoor.co Go.Proofs.YthmfljjpanghgaaDoor.cn Go.Proofs.YthmfljjpanghgaaDoor.qb Go.Proofs.YthmfljjpanghgaaDoor.qc Go.Proofs.YthmfljjpanghgaaDoor.qg Go.Proofs.YthmfljjpanghgaaDoor.qj Go.Proofs.YthmfljjpanghgaaDoor.qm Go.Proofs.YthmfljjpanghgaaDoor.za Go.Proofs.YthmfljjpanghgaaDoor.zb Go.Proofs.YthmfljjpanghgaaDoor.zg Go.Proofs.YthmfljjpanghgaaDoor.zh
set_option linter.unusedVariables false

theorem take_one {xs : List Int} {k : Nat} (h : k < xs.length) : xs.take (k + 1) = xs.take k ++ [xs.getD k 0] := by
  rw [List.take_add_one, List.getElem?_eq_getElem h, List.getD_eq_getElem?_getD, List.getElem?_eq_getElem h]
  rfl
set_option maxRecDepth 100000 in
set_option maxHeartbeats 3200000 in
theorem hashedC (wd : Int) (v va : Value) (l : List ByteArray) (xs : List Int) (w : World) (hl : ReadsT w v l) (hx : ReadsI w va xs) (zl : ∀ x ∈ l, x.size ≤ 140737488351232) (zn : l.length ≤ 200) (zx : xs.length ≤ 1024) (hi : ∀ j, j < xs.length → 0 ≤ xs.getD j 0 ∧ xs.getD j 0 < (l.length : Int)) (hT : Tab w) :
    Calls Tryd.prog 21 #[.int .i64 wd, v, va] w fun e w' => ∃ v', e = .returned v' ∧ OwT w' w.heap.size v' (HL wd l xs) ∧ Below w.heap.size w w' := by
  have HB0 : Hid (Below w.heap.size w w) := Below.refl _ _
  have HO0 : Hid (OwT w w.heap.size (.slice none 0 0) (HL wd l (xs.take 0))) := World.ownsRow_nil _ _ _ _
  have RD : Hid (∀ W, Below w.heap.size w W → ReadsT W v l ∧ ReadsI W va xs ∧ Tab W) := fun W b => ⟨hl.later b, hx.later b, hT.down b⟩
  obtain ⟨la, lc, rfl, hlc, _⟩ := hl
  obtain ⟨xa, xc, rfl, hxc, _⟩ := hx
  have CELL : Hid (∀ k, k < xs.length → ∃ X : Nat, xs.getD k 0 = (X : Int) ∧ X < l.length ∧ ∃ b1 o1 b2 o2, xa = some ⟨b1, o1, none⟩ ∧ la = some ⟨b2, o2, none⟩ ∧ ∀ W, Below w.heap.size w W → W.cell? ⟨b1, o1 + k, none⟩ = some (.int .i64 X) ∧ W.cell? ⟨b2, o2 + X, none⟩ = some (.string (l.getD X ByteArray.empty))) := by
    intro k hk
    obtain ⟨q1, q2⟩ := hi k hk
    refine ⟨(xs.getD k 0).toNat, by omega, by omega, ?_⟩
    obtain ⟨⟨a1, c1, e1, _, h1⟩, ⟨a2, c2, e2, _, h2⟩, _⟩ := RD.out w HB0.out
    obtain ⟨b1, o1, rfl, _⟩ := h1.resolve_left (by omega)
    obtain ⟨b2, o2, rfl, _⟩ := h2.resolve_left (by omega)
    injection e1 with e1 _ _
    injection e2 with e2 _ _
    refine ⟨b2, o2, b1, o1, e2, e1, fun W hW => ?_⟩
    obtain ⟨⟨a1', c1', e1', _, h1'⟩, ⟨a2', c2', e2', _, h2'⟩, _⟩ := RD.out W hW
    injection e1' with e1' _ _
    injection e2' with e2' _ _
    obtain ⟨b1', o1', rfl, p1⟩ := h1'.resolve_left (by omega)
    obtain ⟨b2', o2', rfl, p2⟩ := h2'.resolve_left (by omega)
    rw [e1] at e1'
    rw [e2] at e2'
    injection e1' with e1'
    injection e2' with e2'
    injection e1' with x1 x2 _
    injection e2' with x3 x4 _
    subst x1 x2 x3 x4
    refine ⟨?_, p1 _ (by omega)⟩
    rw [p2 k hk, Int.toNat_of_nonneg q1]
  have LC : Hid (∀ X, X < l.length → ∀ W, Below w.heap.size w W → Calls Tryd.prog 16 #[.int .i64 wd, .string (l.getD X ByteArray.empty)] W fun e w' => e = .returned (.string (LF wd (l.getD X ByteArray.empty))) ∧ Below W.heap.size W w') := fun X hX W b =>
    pLeaf wd _ (by rw [List.getD_eq_getElem?_getD, List.getElem?_eq_getElem hX]; exact Nat.le_trans (zl _ (List.getElem_mem hX)) (by decide)) W (RD.out W b).2.2
  have STEP : Hid (∀ k X, k < xs.length → xs.getD k 0 = ((X : Nat) : Int) → HL wd l (xs.take (k + 1)) = HL wd l (xs.take k) ++ [LF wd (l.getD X ByteArray.empty)]) := fun k X hk e => by
    rw [take_one hk, e]
    unfold HL
    rw [List.map_append]
    rfl
  have LEN : Hid (∀ k, k ≤ xs.length → (HL wd l (xs.take k)).length = k) := fun k hk => by unfold HL; rw [List.length_map, List.length_take]; omega
  have ALL : Hid (xs.take xs.length = xs) := List.take_length
  obtain ⟨n, HN⟩ : ∃ n, Hid (xs.length = n) := ⟨_, rfl⟩
  obtain ⟨N, HNN⟩ : ∃ n, Hid (l.length = n) := ⟨_, rfl⟩
  rw [HN.out] at CELL STEP LEN ALL zx hxc ⊢
  rw [HNN.out] at CELL LC zn hlc ⊢
  clear hi hT zl RD
  go_enter Tryd.func21, Tryd.ntmps21
  go_wp2
  go_loopw [7, 8] (fun s i wr => ∃ k : Nat, k ≤ n ∧ i = .int .i64 k ∧ Hid (OwT wr w.heap.size s (HL wd l (xs.take k))) ∧ Hid (Below w.heap.size w wr)) (fun _ i _ => (n - intOf i).toNat)
  case atStart => exact ⟨0, by omega, rfl, HO0.out, HB0.out⟩
  case round =>
    obtain ⟨k, hk, rfl, HO, HB⟩ := hrel
    obtain ⟨sa, sc, e⟩ := HO.out.form
    rw [LEN.out k hk] at e
    subst e
    rename_i wr
    by_cases hlt : k < n
    · have hlt' : (k : Int) < n := by omega
      obtain ⟨X, hX, hXN, b1, o1, b2, o2, rfl, rfl, hc⟩ := CELL.out k hlt
      obtain ⟨y1, y2⟩ := hc _ HB.out
      have hX' : (X : Int) < N := by omega
      have CL : Hid (Calls _ _ _ _ _) := LC.out X hXN _ HB.out
      have ST : Hid _ := STEP.out k X hlt hX
      have LN : Hid _ := LEN.out k hk
      obtain ⟨d, HD⟩ : ∃ d, Hid (l.getD X ByteArray.empty = d) := ⟨_, rfl⟩
      obtain ⟨h, HH⟩ : ∃ h, Hid (LF wd d = h) := ⟨_, rfl⟩
      rw [HD.out] at y2 CL ST
      rw [HH.out] at CL ST
      clear hc hX
      go_wp2_with fail
      refine CL.out.mono ?_
      rintro e w2 ⟨rfl, hb2⟩
      have BA : Below w2.heap.size w2 (w2.alloc (.cells #[.string h] 9)) := (Below.refl _ _).alloc (Nat.le_refl _) _
      have OA : Hid (OwT (w2.alloc (.cells #[.string h] 9)) w.heap.size _ (HL wd l (xs.take k))) := HO.out.later (over hb2 BA)
      have SA : Hid (w.heap.size ≤ (w2.alloc (.cells #[.string h] 9)).heap.size ∧ Below w.heap.size w (w2.alloc (.cells #[.string h] 9))) := ⟨Nat.le_trans (over HB.out hb2).size BA.size, over (over HB.out hb2) BA⟩
      have NW : Hid (ReadsT _ _ [h]) := qg.text_reads w2 h
      clear BA hb2
      go_wp2_with (at_builtin; refine wpList_appA rfl _ _ rfl w.heap.size _ _ (HL wd l (xs.take k)) [h] rfl OA.out rfl NW.out (fun k c e => by cases e) (by rw [LN.out]; simp; omega) SA.out.1 ?_; intro v' w5 ho hb5; have HO5 : Hid (OwT w5 w.heap.size v' (HL wd l (xs.take k) ++ [h])) := ho; have HB5 : Hid (Below w.heap.size w w5) := SA.out.2.trans hb5; clear ho hb5)
      go_roundw
      case rel => exact ⟨k + 1, by omega, by go_num, by rw [ST.out]; exact HO5.out, HB5.out⟩
      case measure => simp [intOf]; omega
    · have hlt' : ¬ (k : Int) < n := by omega
      obtain rfl : k = n := by omega
      have END : Hid (OwT wr w.heap.size _ (HL wd l xs) ∧ _) := ⟨by have h1 := HO.out; rw [ALL.out] at h1; exact h1, HB.out⟩
      go_wp2
      go_ret
      exact ⟨_, rfl, END.out.1, END.out.2⟩
-- parts of a list in memory
theorem preT {w : World} {a : Option Addr} {n cap k : Nat} {xs : List ByteArray} (h : ReadsT w (.slice a n cap) xs) (hk : k ≤ n) : ReadsT w (.slice a k cap) (xs.take k) := by
  obtain ⟨a', c', e, hc, hh⟩ := h
  injection e with e1 e2 e3
  subst e1 e3
  have hlen : (xs.take k).length = k := by rw [List.length_take]; omega
  refine ⟨a, cap, by rw [hlen], by omega, hh.imp (fun h0 => by omega) fun ⟨b, off, e, hcell⟩ => ⟨b, off, e, fun i hi => ?_⟩⟩
  rw [hlen] at hi
  rw [hcell i (by omega), List.getD_eq_getElem?_getD, List.getD_eq_getElem?_getD, List.getElem?_take, if_pos hi]
theorem sufT {w : World} {g off n cap k : Nat} {xs : List ByteArray} (h : ReadsT w (.slice (some ⟨g, off, none⟩) n cap) xs) (hk : k ≤ n) : ReadsT w (.slice (some ⟨g, off + k, none⟩) (n - k) (cap - k)) (xs.drop k) := by
  obtain ⟨a', c', e, hc, hh⟩ := h
  injection e with e1 e2 e3
  subst e3
  have hlen : (xs.drop k).length = n - k := by rw [List.length_drop]; omega
  refine ⟨_, cap - k, by rw [hlen], by omega, ?_⟩
  rcases hh with h0 | ⟨b, o, e, hcell⟩
  · exact .inl (by omega)
  · refine .inr ⟨g, off + k, rfl, fun i hi => ?_⟩
    rw [← e1] at e
    injection e with e
    injection e with x1 x2 _
    subst x1 x2
    rw [hlen] at hi
    rw [show off + k + i = off + (k + i) by omega, hcell (k + i) (by omega), List.getD_eq_getElem?_getD, List.getD_eq_getElem?_getD, List.getElem?_drop]
def Gth (wd : Int) (l : List ByteArray) (xs : List Int) (a b : Nat) (w : World) (e : Ending) (w' : World) : Prop :=
  ∃ v', e = .returned v' ∧ ReadsT w' v' ((WL (lkM (natL xs)) a b).map (R wd l)) ∧ (∀ k c, v' = .slice none k c → c = 0) ∧ Below w.heap.size w w'
theorem WL_short (lk : Nat → Nat → Nat) (n : Nat) : ∀ a b, b - a = n → a < b → (WL lk a b).length ≤ b - a := by
  induction n using Nat.strongRecOn with
  | ind n ih =>
    intro a b hn hab
    by_cases h0 : lk a b = 0
    · rw [WL_pass h0]; simp
    by_cases h1 : lk a b = 1
    · rw [WL_take h1]; simp; omega
    by_cases h2 : 2 ≤ b - a
    · have hh := half_lt h2
      have i1 := ih (half (b - a)) (by omega) a (a + half (b - a)) (by omega) (by omega)
      have i2 := ih (b - a - half (b - a)) (by omega) (a + half (b - a)) b (by omega) (by omega)
      by_cases h3 : lk a b = 2
      · rw [WL_left h3 h2, List.length_append]; omega
      · rw [WL_right (by omega) h2, List.length_append]; omega
    · rw [WL, if_neg h0, if_neg h1, dif_neg h2]; simp
set_option maxRecDepth 100000 in
set_option maxHeartbeats 6400000 in
theorem gatheredC (wd : Int) (hwd : i64 wd) (va : Value) (l : List ByteArray) (xs : List Int) (hf : Fits l) (zn : l.length ≤ 200) (zx : xs.length ≤ 1024) (h0 : ∀ p ∈ xs, (0 : Int) ≤ p) (n : Nat) : ∀ (a b : Nat) (v : Value) (w : World), b - a = n → a < b → b ≤ l.length → ReadsT w v (S l a b) → ReadsI w va xs → Tab w →
    Calls Tryd.prog 22 #[.int .i64 wd, v, .int .i64 a, va] w (Gth wd l xs a b w) := by
  induction n using Nat.strongRecOn with
  | ind n ih =>
    intro a b v w hn hab hb hv hx hT
    have SC : Hid (Calls _ _ _ _ _) := someC va xs a b w hx (by omega)
    have hlk := sm_lk h0 a b
    obtain ⟨s, HS⟩ : ∃ s, Hid (sm xs a b = s) := ⟨_, rfl⟩
    rw [HS.out] at SC hlk
    have hfs : Fits (S l a b) := (hf.drop a).take (b - a)
    have zS := S_len (l := l) (a := a) hb
    have RC : Hid (Calls _ _ _ _ _) := mb.rootC wd v (S l a b) w hwd hT hv hfs
    have HV : Hid (ReadsT w v (S l a b) ∧ ReadsI w va xs ∧ Tab w) := ⟨hv, hx, hT⟩
    obtain ⟨la, lc, e, hlc, hcells⟩ := hv
    rw [zS] at e hlc hcells
    subst e
    have zab : ((a : Int) + ((b - a : Nat) : Int)) = b := by omega
    cases s
    · rw [if_neg (by decide)] at hlk
      have FIN : Hid ((WL (lkM (natL xs)) a b).map (R wd l) = [RT wd (S l a b)]) := by show _ = _; rw [WL_take hlk]; rfl
      obtain ⟨r, HR⟩ : ∃ r, Hid (RT wd (S l a b) = r) := ⟨_, rfl⟩
      rw [HR.out] at RC FIN
      obtain ⟨m, HM⟩ : ∃ m, Hid (b - a = m) := ⟨_, rfl⟩
      rw [HM.out] at RC zab ⊢
      clear ih hcells hlk hf hfs h0 hx hT hwd HV
      go_enter Tryd.func22, Tryd.ntmps22
      go_wp2_with fail
      refine SC.out.mono ?_
      rintro e w1 ⟨rfl, hw⟩
      subst hw
      go_wp2_with fail
      refine RC.out.mono ?_
      rintro e w2 ⟨rfl, hb2⟩
      have END : Hid (ReadsT (w2.alloc (.cells #[.string r] 9)) (.slice (some ⟨w2.heap.size, 0, none⟩) 1 1) [r] ∧ Below w1.heap.size w1 (w2.alloc (.cells #[.string r] 9))) := ⟨qg.text_reads w2 r, over hb2 ((Below.refl _ _).alloc (Nat.le_refl _) _)⟩
      clear hb2
      go_wp2
      go_ret
      unfold Gth
      rw [FIN.out]
      exact ⟨_, rfl, END.out.1, (fun k c e => by cases e), END.out.2⟩
    · rw [if_pos rfl] at hlk
      by_cases h1 : b - a = 1
      · rw [if_pos h1] at hlk
        have FIN : Hid ((WL (lkM (natL xs)) a b).map (R wd l) = []) := by show _ = _; rw [WL_pass hlk]; rfl
        obtain ⟨m, HM⟩ : ∃ m, Hid (b - a = m) := ⟨_, rfl⟩
        rw [HM.out] at zab h1 ⊢
        have q1 : (m : Int) < 2 := by omega
        clear ih hcells hlk hf hfs h0 hx hT hwd HV RC h1
        go_enter Tryd.func22, Tryd.ntmps22
        go_wp2_with fail
        refine SC.out.mono ?_
        rintro e w1 ⟨rfl, hw⟩
        subst hw
        go_wp2
        go_ret
        unfold Gth
        rw [FIN.out]
        exact ⟨_, rfl, ⟨none, 0, rfl, Nat.le_refl _, .inl rfl⟩, (fun k c e => by injection e with _ _ e3; exact e3.symm), Below.refl _ _⟩
      · rw [if_neg h1] at hlk
        have h2 : 2 ≤ b - a := by omega
        have hh := half_lt h2
        obtain ⟨g, off, rfl, _⟩ := hcells.resolve_left (by omega)
        have SP : Hid (∀ w, Calls _ _ _ _ _) := fun w => splitC (b - a) h2 (by omega) w
        have tk := S_take (l := l) (a := a) (k := a + half (b - a)) (b := b) (by omega) (by omega)
        have dp := S_drop (l := l) (a := a) (k := a + half (b - a)) (b := b) (by omega) (by omega)
        rw [Nat.add_sub_cancel_left] at tk dp
        have I1 : Hid (Calls _ _ _ _ _) := ih (half (b - a)) (by omega) a (a + half (b - a)) (.slice (some ⟨g, off, none⟩) (half (b - a)) lc) w (by omega) (by omega) (by omega) (by rw [← tk]; exact preT HV.out.1 (by omega)) hx hT
        have I2 : Hid (∀ W, Below w.heap.size w W → Calls _ _ _ _ _) := fun W bW => ih (b - a - half (b - a)) (by omega) (a + half (b - a)) b (.slice (some ⟨g, off + half (b - a), none⟩) (b - a - half (b - a)) (lc - half (b - a))) W (by omega) (by omega) hb (by rw [← dp]; exact sufT (HV.out.1.later bW) (by omega)) (hx.later bW) (hT.down bW)
        have FIN : Hid ((WL (lkM (natL xs)) a b).map (R wd l) = (WL (lkM (natL xs)) a (a + half (b - a))).map (R wd l) ++ (WL (lkM (natL xs)) (a + half (b - a)) b).map (R wd l)) := by show _ = _; rw [WL_left hlk h2, List.map_append]
        have L1 := WL_short (lkM (natL xs)) (half (b - a)) a (a + half (b - a)) (by omega) (by omega)
        have L2 := WL_short (lkM (natL xs)) (b - a - half (b - a)) (a + half (b - a)) b (by omega) (by omega)
        rw [← List.length_map (f := R wd l)] at L1 L2
        unfold Gth at I1 I2
        obtain ⟨TL, HTL⟩ : ∃ q, Hid ((WL (lkM (natL xs)) a (a + half (b - a))).map (R wd l) = q) := ⟨_, rfl⟩
        obtain ⟨TR, HTR⟩ : ∃ q, Hid ((WL (lkM (natL xs)) (a + half (b - a)) b).map (R wd l) = q) := ⟨_, rfl⟩
        rw [HTL.out] at I1 FIN L1
        rw [HTR.out] at I2 FIN L2
        have HLL : Hid (TL.length ≤ 200 ∧ TR.length ≤ 200) := ⟨by omega, by omega⟩
        have zc1 : ((a + half (b - a) : Nat) : Int) = (a : Int) + half (b - a) := by omega
        rw [zc1] at I2
        obtain ⟨k, HK⟩ : ∃ k, Hid (half (b - a) = k) := ⟨_, rfl⟩
        rw [HK.out] at SP I1 I2 hh
        obtain ⟨m, HM⟩ : ∃ m, Hid (b - a = m) := ⟨_, rfl⟩
        rw [HM.out] at SP I2 hh h2 zab hlc ⊢
        have q1 : ¬ (m : Int) < 2 := by omega
        have q2 : (k : Int) ≤ lc := by omega
        have q3 : (k : Int) ≤ m := by omega
        have zm : ((m - k : Nat) : Int) = (m : Int) - k := by omega
        clear ih hlk hf hfs h0 hx hT hwd HV RC hcells tk dp L1 L2 zc1
        go_enter Tryd.func22, Tryd.ntmps22
        go_wp2_with fail
        refine SC.out.mono ?_
        rintro e w1 ⟨rfl, hw⟩
        subst hw
        go_wp2_with fail
        refine (SP.out _).mono ?_
        rintro e w2 ⟨rfl, hw⟩
        subst hw
        go_wp2_with fail
        refine I1.out.mono ?_
        rintro e w3 ⟨vl, rfl, r1, n1, b3⟩
        have Q3 : Hid (ReadsT w3 vl TL ∧ (∀ k c, vl = .slice none k c → c = 0) ∧ Below w2.heap.size w2 w3) := ⟨r1, n1, b3⟩
        have I3 : Hid (Calls _ _ _ _ _) := I2.out w3 b3
        clear r1 n1 b3
        go_wp2_with fail
        refine I3.out.mono ?_
        rintro e w4 ⟨vr, rfl, r2, n2, b4⟩
        have Q4 : Hid (ReadsT w4 vl TL ∧ ReadsT w4 vr TR ∧ (∀ k c, vr = .slice none k c → c = 0) ∧ Below w2.heap.size w2 w4) := ⟨Q3.out.1.later b4, r2, n2, over Q3.out.2.2 b4⟩
        have OX : Hid (OwT w4 w4.heap.size (.slice none 0 0) []) := World.ownsRow_nil _ _ _ _
        clear r2 n2 b4
        go_upto_region 11 with (at_builtin; refine wpList_appA rfl _ _ rfl w4.heap.size _ _ [] TL rfl OX.out rfl Q4.out.1 Q3.out.2.1 (by have := HLL.out; simp; omega) (Nat.le_refl _) ?_; intro v5 w5 ho hb5; have HO5 : Hid (OwT w5 w4.heap.size v5 TL) := ho; have HB5 : Hid (Below w4.heap.size w4 w5) := hb5; clear ho hb5)
        have Q5 : Hid (ReadsT w5 vr TR ∧ w4.heap.size ≤ w5.heap.size) := ⟨Q4.out.2.1.later HB5.out, HB5.out.size⟩
        go_wp2_with (at_builtin; refine wpList_appA rfl _ _ rfl w4.heap.size _ _ TL TR rfl HO5.out rfl Q5.out.1 Q4.out.2.2.1 (by have := HLL.out; omega) Q5.out.2 ?_; intro v6 w6 ho hb6; have HO6 : Hid (OwT w6 w4.heap.size v6 (TL ++ TR)) := ho; have HB6 : Hid (Below w2.heap.size w2 w6) := over Q4.out.2.2.2 (HB5.out.trans hb6); clear ho hb6)
        go_ret
        unfold Gth
        rw [FIN.out]
        exact ⟨_, rfl, HO6.out.reads, HO6.out.no, HB6.out⟩
end Go.Proofs.YthmfljjpanghgaaDoor.zk

namespace Go.Proofs.YthmfljjpanghgaaDoor.zl
open Go.RowKit Go.PlainAid
open Go.Proofs.YthmfljjpanghgaaDoor.pl Go.Proofs.YthmfljjpanghgaaDoor.pi Go.Proofs.YthmfljjpanghgaaDoor.pj Go.Proofs.YthmfljjpanghgaaDoor.rf Go.Proofs.YthmfljjpanghgaaDoor.ca Go.Proofs.YthmfljjpanghgaaDoor.cb Go.Proofs.YthmfljjpanghgaaDoor.cp Go.Proofs.YthmfljjpanghgaaDoor.ga Go.Proofs.YthmfljjpanghgaaDoor.aa Go.Proofs.YthmfljjpanghgaaDoor.ka Go.Proofs.YthmfljjpanghgaaDoor.kb Go.Proofs.YthmfljjpanghgaaDoor.kc Go.Proofs.YthmfljjpanghgaaDoor.kp Go.Proofs.YthmfljjpanghgaaDoor.lk Go.Proofs.YthmfljjpanghgaaDoor.mi Go.Proofs.YthmfljjpanghgaaDoor.lm Go.Proofs.YthmfljjpanghgaaDoor.co Go.Proofs.YthmfljjpanghgaaDoor.cn Go.Proofs.YthmfljjpanghgaaDoor.zh
set_option linter.unusedVariables false

-- rising places below k
structure Good (xs : List Int) (k : Nat) : Prop where
  len : xs.length ≤ k
  inn : ∀ j, j < xs.length → 0 ≤ xs.getD j 0 ∧ xs.getD j 0 < (k : Int)
  ris : ∀ j, j + 1 < xs.length → xs.getD j 0 < xs.getD (j + 1) 0
theorem Good.more {xs : List Int} {k : Nat} (h : Good xs k) : Good xs (k + 1) := ⟨by have := h.len; omega, fun j hj => by have := h.inn j hj; omega, h.ris⟩
theorem getD_snoc (xs : List Int) (x : Int) (j : Nat) : (xs ++ [x]).getD j 0 = if j < xs.length then xs.getD j 0 else if j = xs.length then x else 0 := by
  rw [List.getD_eq_getElem?_getD, List.getD_eq_getElem?_getD]
  by_cases h : j < xs.length
  · rw [List.getElem?_append_left h, if_pos h]
  · rw [List.getElem?_append_right (by omega), if_neg h]
    by_cases e : j = xs.length
    · rw [if_pos e, e, Nat.sub_self]; rfl
    · rw [if_neg e, List.getElem?_eq_none (by simp; omega)]; rfl
theorem Good.snoc {xs : List Int} {k : Nat} (h : Good xs k) : Good (xs ++ [(k : Int)]) (k + 1) := by
  refine ⟨by rw [List.length_append]; have := h.len; simp; omega, fun j hj => ?_, fun j hj => ?_⟩
  · rw [getD_snoc]
    by_cases e : j < xs.length
    · rw [if_pos e]; have := h.inn j e; omega
    · rw [if_neg e, if_pos (by rw [List.length_append] at hj; simp at hj; omega)]; omega
  · rw [List.length_append] at hj
    simp at hj
    rw [getD_snoc, getD_snoc, if_pos (by omega)]
    by_cases e : j + 1 < xs.length
    · rw [if_pos e]; exact h.ris j e
    · rw [if_neg e, if_pos (by omega)]; exact (h.inn j (by omega)).2
theorem scan_zero (f : Nat → Int) (m : Nat) : ∀ k, (∀ j, k ≤ j → j < k + m → f j = 0) → scan f m k = 0 := by
  induction m with
  | zero => intro k h; rfl
  | succ m ih =>
    intro k h
    unfold scan
    rw [if_pos (h k (Nat.le_refl _) (by omega))]
    exact ih (k + 1) (fun j h1 h2 => h j (by omega) (by omega))
theorem Good.places {xs : List Int} {n : Nat} (h : Good xs n) (h1 : 1 ≤ xs.length) (hn : n ≤ 200) : places xs (n : Int) = 0 := by
  have hl := h.len
  unfold mi.places
  rw [if_neg (by omega), if_neg (by omega)]
  refine scan_zero _ _ 0 fun j _ hj => ?_
  have hi := h.inn j (by omega)
  unfold bad
  rw [if_neg (by omega), if_neg (by omega), if_neg]
  rintro ⟨q1, q2⟩
  have := h.ris (j - 1) (by omega)
  rw [show j - 1 + 1 = j by omega] at this
  omega
set_option maxRecDepth 100000 in
set_option maxHeartbeats 3200000 in
theorem chosenC (n : Nat) (mask : Int) (hm : i64 mask) (h1 : 1 ≤ n) (hz : n ≤ 200) (w : World) :
    Calls Tryd.prog 23 #[.int .i64 n, .int .i64 mask] w fun e w' => ∃ v xs, e = .returned v ∧ OwI w' w.heap.size v xs ∧ places xs (n : Int) = 0 ∧ Below w.heap.size w w' := by
  have HB0 : Hid (Below w.heap.size w w) := Below.refl _ _
  have HO0 : Hid (OwI w w.heap.size (.slice none 0 0) []) := World.ownsRow_nil _ _ _ _
  have HG0 : Hid (Good [] 0) := ⟨by simp, fun j h => by simp at h, fun j h => by simp at h⟩
  go_enter Tryd.func23, Tryd.ntmps23
  go_wp2
  go_loopw [5, 6] (fun s i wr => ∃ (k : Nat) (xs : List Int), k ≤ n ∧ i = .int .i64 k ∧ Hid (Good xs k) ∧ Hid (OwI wr w.heap.size s xs) ∧ Hid (Below w.heap.size w wr)) (fun _ i _ => (n - intOf i).toNat)
  case atStart => exact ⟨0, [], by omega, rfl, HG0.out, HO0.out, HB0.out⟩
  case round =>
    obtain ⟨k, xs, hk, rfl, HG, HO, HB⟩ := hrel
    obtain ⟨sa, sc, e⟩ := HO.out.form
    have HL : Hid (xs.length ≤ k) := HG.out.len
    obtain ⟨lx, HLX⟩ : ∃ q, Hid (xs.length = q) := ⟨_, rfl⟩
    rw [HLX.out] at e HL
    subst e
    have hlx : lx ≤ k := HL.out
    by_cases hlt : k < n
    · have hlt' : (k : Int) < n := by omega
      have BA : Below wr.heap.size wr (wr.alloc (.cells #[.int .i64 k] 3)) := (Below.refl _ _).alloc (Nat.le_refl _) _
      have OA : Hid (OwI (wr.alloc (.cells #[.int .i64 k] 3)) w.heap.size _ xs) := HO.out.later BA
      have SA : Hid (w.heap.size ≤ (wr.alloc (.cells #[.int .i64 k] 3)).heap.size ∧ Below w.heap.size w (wr.alloc (.cells #[.int .i64 k] 3))) := ⟨Nat.le_trans HB.out.size BA.size, over HB.out BA⟩
      have NW : Hid ((wr.alloc (.cells #[.int .i64 k] 3)).cell? (Addr.add ⟨wr.heap.size, 0, none⟩ 0) = some (.int .i64 k)) := ti.new_one wr (.int .i64 k) 3 0 _ rfl
      clear BA
      obtain ⟨c, hc⟩ : ∃ c : Bool, (bits BinOp.and IntKind.i64 (mask / 2 ^ (k % 60)) 1 == 1) = c := ⟨_, rfl⟩
      cases c
      · have HG1 : Hid _ := HG.out.more
        go_wp2
        go_roundw
        case rel => exact ⟨k + 1, xs, by omega, by go_num, HG1.out, HO.out, HB.out⟩
        case measure => simp [intOf]; omega
      · have HG1 : Hid _ := HG.out.snoc
        go_wp2_with (at_builtin; refine wpList_appI rfl _ _ rfl w.heap.size _ xs k _ rfl OA.out rfl NW.out (by rw [HLX.out]; omega) SA.out.1 ?_; intro v' w5 ho hb5; have HO5 : Hid (OwI w5 w.heap.size v' (xs ++ [(k : Int)])) := ho; have HB5 : Hid (Below w.heap.size w w5) := SA.out.2.trans hb5; clear ho hb5)
        go_roundw
        case rel => exact ⟨k + 1, _, by omega, by go_num, HG1.out, HO5.out, HB5.out⟩
        case measure => simp [intOf]; omega
    · have hlt' : ¬ (k : Int) < n := by omega
      obtain rfl : k = n := by omega
      by_cases h0 : lx = 0
      · subst h0
        have hxn : xs = [] := List.length_eq_zero_iff.1 HLX.out
        subst hxn
        have hp : (0 : Int) < k := by omega
        have BA : Below wr.heap.size wr (wr.alloc (.cells #[.int .i64 ((k : Int) - 1)] 3)) := (Below.refl _ _).alloc (Nat.le_refl _) _
        have OA : Hid (OwI (wr.alloc (.cells #[.int .i64 ((k : Int) - 1)] 3)) w.heap.size _ []) := HO.out.later BA
        have SA : Hid (w.heap.size ≤ (wr.alloc (.cells #[.int .i64 ((k : Int) - 1)] 3)).heap.size ∧ Below w.heap.size w (wr.alloc (.cells #[.int .i64 ((k : Int) - 1)] 3))) := ⟨Nat.le_trans HB.out.size BA.size, over HB.out BA⟩
        have NW : Hid ((wr.alloc (.cells #[.int .i64 ((k : Int) - 1)] 3)).cell? (Addr.add ⟨wr.heap.size, 0, none⟩ 0) = some (.int .i64 ((k : Int) - 1))) := ti.new_one wr (.int .i64 ((k : Int) - 1)) 3 0 _ rfl
        have PL : Hid (places [(k : Int) - 1] (k : Int) = 0) := Good.places (n := k) ⟨by simp; omega, fun j hj => by simp at hj; subst hj; show 0 ≤ (k : Int) - 1 ∧ (k : Int) - 1 < k; omega, fun j hj => by simp at hj⟩ (by simp) hz
        clear BA
        go_wp2_with (at_builtin; refine wpList_appI rfl _ _ rfl w.heap.size _ [] ((k : Int) - 1) _ rfl OA.out rfl NW.out (by simp) SA.out.1 ?_; intro v' w5 ho hb5; have HO5 : Hid (OwI w5 w.heap.size v' [(k : Int) - 1]) := ho; have HB5 : Hid (Below w.heap.size w w5) := SA.out.2.trans hb5; clear ho hb5)
        go_ret
        exact ⟨_, rfl, _, HO5.out, PL.out, HB5.out⟩
      · have q0 : ((lx : Int) == 0) = false := by rw [beq_eq_false_iff_ne]; omega
        have q1 : (lx == 0) = false := by rw [beq_eq_false_iff_ne]; exact h0
        have PL : Hid (places xs (k : Int) = 0) := HG.out.places (by rw [HLX.out]; omega) hz
        have END : Hid (OwI wr w.heap.size _ xs ∧ _) := ⟨HO.out, HB.out⟩
        go_wp2
        go_ret
        exact ⟨_, rfl, _, END.out.1, PL.out, END.out.2⟩
end Go.Proofs.YthmfljjpanghgaaDoor.zl
