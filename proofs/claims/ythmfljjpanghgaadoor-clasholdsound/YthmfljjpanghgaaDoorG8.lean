import Derived.Test.YthmfljjpanghgaaDoorG7
import Derived.Test.YthmfljjpanghgaaDoorG6
import Derived.Test.YthmfljjpanghgaaDoorG3
import Derived.Test.YthmfljjpanghgaaDoorG4
namespace Go.Proofs.YthmfljjpanghgaaDoor.qx
open Go.RowKit Go.PlainAid
open Go.Proofs.YthmfljjpanghgaaDoor.pl Go.Proofs.YthmfljjpanghgaaDoor.pi Go.Proofs.YthmfljjpanghgaaDoor.pj Go.Proofs.YthmfljjpanghgaaDoor.rf Go.Proofs.YthmfljjpanghgaaDoor.ca Go.Proofs.YthmfljjpanghgaaDoor.cb Go.Proofs.YthmfljjpanghgaaDoor.cp Go.Proofs.YthmfljjpanghgaaDoor.ga Go.Proofs.YthmfljjpanghgaaDoor.aa Go.Proofs.YthmfljjpanghgaaDoor.ka Go.Proofs.YthmfljjpanghgaaDoor.kb Go.Proofs.YthmfljjpanghgaaDoor.kc Go.Proofs.YthmfljjpanghgaaDoor.kp Go.Proofs.YthmfljjpanghgaaDoor.lk Go.Proofs.YthmfljjpanghgaaDoor.mi Go.Proofs.YthmfljjpanghgaaDoor.lm Go.Proofs.YthmfljjpanghgaaDoor.co Go.Proofs.YthmfljjpanghgaaDoor.cn Go.Proofs.YthmfljjpanghgaaDoor.dc Go.Proofs.YthmfljjpanghgaaDoor.df Go.Proofs.YthmfljjpanghgaaDoor.qa Go.Proofs.YthmfljjpanghgaaDoor.qb Go.Proofs.YthmfljjpanghgaaDoor.qc Go.Proofs.YthmfljjpanghgaaDoor.qe Go.Proofs.YthmfljjpanghgaaDoor.qi Go.Proofs.YthmfljjpanghgaaDoor.wb Go.Proofs.YthmfljjpanghgaaDoor.qr Go.Proofs.YthmfljjpanghgaaDoor.qs Go.Proofs.YthmfljjpanghgaaDoor.qt Go.Proofs.YthmfljjpanghgaaDoor.qu Go.Proofs.YthmfljjpanghgaaDoor.qv Go.Proofs.YthmfljjpanghgaaDoor.qw
open Go.Proofs.YthmfljjpanghgaaDoor.qd (reads_nilI two_reads)
set_option linter.unusedVariables false
set_option linter.unusedSimpArgs false
theorem headD_drop (l : List ByteArray) (u : Nat) : (l.drop u).headD ByteArray.empty = l.getD u ByteArray.empty := by
  rw [List.headD_eq_head?_getD, List.head?_drop, List.getD_eq_getElem?_getD]
theorem size_at {wd : Int} {l : List ByteArray} (h : Wide wd l) {u : Nat} (hu : u < l.length) : (l.getD u ByteArray.empty).size = wid wd := by
  rw [List.getD_eq_getElem?_getD, List.getElem?_eq_getElem hu]
  exact h _ (List.getElem_mem hu)
-- what is answered of a part with old leaves
def Gav (wd : Int) (m : Nat) (old : ByteArray) (base tb : Nat) (vp vh : Value) (p : List ByteArray) (u a b : Nat) (w : World) (e : Ending) (w' : World) : Prop :=
  e = .returned (.tuple #[.string (go (WG wd m old) (p.drop u) a b).1.1, .string (go (WG wd m old) (p.drop u) a b).1.2]) ∧ (go (WG wd m old) (p.drop u) a b).1.1.size = wid wd ∧ (go (WG wd m old) (p.drop u) a b).1.2.size = wid wd ∧ Tk base tb vp vh p [] (u + (WL (lkC m) a b).length) 0 w' ∧ Kp (fun b => b = tb) w w'
theorem go_whole (wd : Int) (m : Nat) (old : ByteArray) (p : List ByteArray) : go (WG wd m old) p 0 m = ((old, old), p) := by
  have e : (WG wd m old).lk p 0 m = (0, p) := by show (lkC m 0 m, p) = _; unfold lkC; rw [if_pos ⟨rfl, rfl⟩]
  rw [go_stop (by rw [e]; show 0 < 2; omega), e]; rfl
theorem lkC_old {m a b : Nat} (h0 : ¬ (a = 0 ∧ b = m)) (h : b ≤ m) : lkC m a b = 1 := by unfold lkC; rw [if_neg h0, if_pos (.inl h)]
theorem lkC_new {m a b : Nat} (h0 : ¬ (a = 0 ∧ b = m)) (h : m ≤ a) : lkC m a b = 1 := by unfold lkC; rw [if_neg h0, if_pos (.inr h)]
theorem go_old (wd : Int) {m a b : Nat} (old : ByteArray) (p : List ByteArray) (h0 : ¬ (a = 0 ∧ b = m)) (h : b ≤ m) (ha : a < m) : go (WG wd m old) p a b = ((p.headD ByteArray.empty, p.headD ByteArray.empty), p.drop 1) := by
  have e : (WG wd m old).lk p a b = (1, p) := by show (lkC m a b, p) = _; rw [lkC_old h0 h]
  rw [go_stop (by rw [e]; show 1 < 2; omega), e]
  show (if m ≤ a then _ else _ : (ByteArray × ByteArray) × List ByteArray) = _
  rw [if_neg (by omega)]
theorem go_new (wd : Int) {m a b : Nat} (old : ByteArray) (p : List ByteArray) (h0 : ¬ (a = 0 ∧ b = m)) (h : m ≤ a) : go (WG wd m old) p a b = ((⟨#[]⟩, p.headD ByteArray.empty), p.drop 1) := by
  have e : (WG wd m old).lk p a b = (1, p) := by show (lkC m a b, p) = _; rw [lkC_new h0 h]
  rw [go_stop (by rw [e]; show 1 < 2; omega), e]
  show (if m ≤ a then _ else _ : (ByteArray × ByteArray) × List ByteArray) = _
  rw [if_pos h]
set_option maxRecDepth 100000 in
set_option maxHeartbeats 6400000 in
theorem rGrown (wd : Int) (m : Nat) (hm2 : m ≤ 4611686018427387904) (old : ByteArray) (ho : old.size = wid wd) (base tb : Nat) (vp vh : Value) (p : List ByteArray) (hp : Wide wd p) (zp : p.length ≤ 140737488355328) (n : Nat) : ∀ (a b u : Nat) (w : World), b - a = n → a < m → m ≤ b → b ≤ 4611686018427387904 → Tk base tb vp vh p [] u 0 w → u + (WL (lkC m) a b).length ≤ p.length →
    Calls Tryd.prog 60 #[.int .i64 (wid wd : Nat), .int .i64 ((m : Int) - a), .int .i64 ((b : Int) - a), .bool (decide (a = 0)), .string old, .pointer (some ⟨tb, 0, none⟩)] w (Gav wd m old base tb vp vh p u a b w) := by
  induction n using Nat.strongRecOn with
  | ind n ih =>
    intro a b u w hn ha hmb hb t hu
    have h32 := qb.wid_le wd
    by_cases hbm : b = m
    · subst hbm
      have q0 : (((b : Int) - a) == ((b : Int) - a)) = true := beq_self_eq_true _
      by_cases ha0 : a = 0
      · subst ha0
        have HG : Hid _ := go_whole wd b old (p.drop u)
        have HW : Hid (WL (lkC b) 0 b = []) := WL_pass (by unfold lkC; rw [if_pos ⟨rfl, rfl⟩])
        have HT : Hid (Tk base tb vp vh p [] u 0 w) := t
        have HO : Hid _ := ho
        rw [decide_eq_true rfl]
        clear ih t hu hn h32 ho
        go_enter Tryd.func60, Tryd.ntmps60
        go_wp2
        go_ret2
        unfold Gav
        rw [HG.out, HW.out]
        exact ⟨rfl, HO.out, HO.out, HT.out, Kp.refl _ _⟩
      · have h0 : ¬ (a = 0 ∧ b = b) := fun h => ha0 h.1
        have HG : Hid _ := go_old wd old (p.drop u) h0 (Nat.le_refl _) ha
        have HW : Hid _ := WL_take (lkC_old h0 (Nat.le_refl _))
        have hu1 : u < p.length := by rw [HW.out] at hu; exact hu
        have NC : Hid (Calls _ _ _ _ _) := nextD base tb vp vh p [] u 0 w t hu1 zp
        have HZ : Hid _ := size_at hp hu1
        rw [decide_eq_false ha0]
        have HH : Hid _ := headD_drop p u
        obtain ⟨y, HY⟩ : ∃ y, Hid (p.getD u ByteArray.empty = y) := ⟨_, rfl⟩
        rw [HY.out] at NC HZ HH
        clear ih t hu hn h32 ho
        go_enter Tryd.func60, Tryd.ntmps60
        go_wp2_with fail
        refine NC.out.mono ?_
        rintro e w1 ⟨rfl, q2, q3⟩
        have Q : Hid (_ ∧ _) := ⟨q2, q3⟩
        clear q2 q3
        go_wp2
        go_ret2
        unfold Gav
        rw [HG.out, HW.out, HH.out]
        exact ⟨rfl, HZ.out, HZ.out, Q.out.1, Q.out.2⟩
    · have hmb' : m < b := by omega
      have h2n : 2 ≤ b - a := by omega
      have hh2 := half_lt h2n
      have q0 : (((m : Int) - a) == ((b : Int) - a)) = false := by rw [beq_eq_false_iff_ne]; omega
      have SP : Hid (∀ w, Calls _ _ _ _ _) := fun w => rSplit (b - a) h2n (by omega) w
      have z1 : ((b - a : Nat) : Int) = (b : Int) - a := by omega
      rw [z1] at SP
      by_cases hmk : m ≤ a + half (b - a)
      · -- the left half has them all
        have hk : lkC m a b = 2 := by unfold lkC; rw [if_neg (fun h => hbm h.2), if_neg (by omega), if_pos (by omega)]
        have h0r : ¬ (a + half (b - a) = 0 ∧ b = m) := fun h => hbm h.2
        have hwr := WL_take (lkC_new h0r hmk)
        have hwl := WL_left hk h2n
        rw [hwl, hwr, List.length_append] at hu
        have st := go_stateG wd m old (half (b - a)) a (a + half (b - a)) (p.drop u) (by omega) (by omega)
        rw [List.drop_drop] at st
        have hgo : go (WG wd m old) (p.drop u) a b = (((go (WG wd m old) (p.drop u) a (a + half (b - a))).1.1, NF wd (go (WG wd m old) (p.drop u) a (a + half (b - a))).1.2 (p.getD (u + (WL (lkC m) a (a + half (b - a))).length) ByteArray.empty)), p.drop (u + (WL (lkC m) a (a + half (b - a))).length + 1)) := by
          have e : (WG wd m old).lk (p.drop u) a b = (2, p.drop u) := by show (lkC m a b, _) = _; rw [hk]
          rw [go_left (by rw [e]) h2n, e]
          simp only
          rw [st, go_new wd old _ h0r hmk, headD_drop, List.drop_drop]
          show ((if (⟨#[]⟩ : ByteArray) = ⟨#[]⟩ then _ else _, _), _) = _
          rw [if_pos rfl]
        have I1 : Hid (Calls _ _ _ _ _) := ih (half (b - a)) (by omega) a (a + half (b - a)) u w (by omega) ha hmk (by omega) t (by omega)
        have hu2 : u + (WL (lkC m) a (a + half (b - a))).length < p.length := by simp at hu; omega
        have NC : Hid (∀ w', Tk base tb vp vh p [] (u + (WL (lkC m) a (a + half (b - a))).length) 0 w' → Calls _ _ _ _ _) := fun w' t' => nextD base tb vp vh p [] _ 0 w' t' hu2 zp
        have hzy := size_at hp hu2
        unfold Gav at I1
        have FIN : Hid (WL (lkC m) a b = WL (lkC m) a (a + half (b - a)) ++ [(a + half (b - a), b)] ∧ go (WG wd m old) (p.drop u) a b = _) := ⟨by rw [hwl, hwr], hgo⟩
        obtain ⟨k, HK⟩ : ∃ k, Hid (half (b - a) = k) := ⟨_, rfl⟩
        rw [HK.out] at SP I1 NC FIN hh2 hmk hzy
        obtain ⟨L, HLL⟩ : ∃ L, Hid ((WL (lkC m) a (a + k)).length = L) := ⟨_, rfl⟩
        obtain ⟨G, HG⟩ : ∃ G, Hid (go (WG wd m old) (p.drop u) a (a + k) = G) := ⟨_, rfl⟩
        rw [HLL.out] at I1 NC FIN hzy
        rw [HG.out] at I1 FIN
        obtain ⟨y, HY⟩ : ∃ y, Hid (p.getD (u + L) ByteArray.empty = y) := ⟨_, rfl⟩
        rw [HY.out] at NC FIN hzy
        obtain ⟨⟨g1, g2⟩, g3⟩ := G
        simp only at I1 FIN
        have RC : Hid (∀ w', g2.size = wid wd → Tab4 w' → Calls _ _ _ _ _) := fun w' z t' => rNode ((wid wd : Nat) : Int) g2 y (by omega) w' t'
        rw [NF_wid] at RC
        have HSZ : Hid ((NF wd g2 y).size = wid wd) := NF_size _ _ _
        obtain ⟨r, HRR⟩ : ∃ r, Hid (NF wd g2 y = r) := ⟨_, rfl⟩
        rw [HRR.out] at RC FIN HSZ
        obtain ⟨mm, HMM⟩ : ∃ q, Hid (wid wd = q) := ⟨_, rfl⟩
        rw [HMM.out] at I1 RC HSZ ⊢
        have z2 : ((a + k : Nat) : Int) - a = (k : Int) := by omega
        rw [z2] at I1
        have q1 : (m : Int) - a ≤ k := by omega
        clear ih t hu hk hn st hgo hwl hwr hu2 h32 ho hzy
        go_enter Tryd.func60, Tryd.ntmps60
        go_wp2_with fail
        refine (SP.out _).mono ?_
        rintro e w1 ⟨rfl, hw⟩
        subst hw
        go_wp2_with fail
        refine I1.out.mono ?_
        rintro e w2 ⟨rfl, s1, s2, t2, k2⟩
        have Q2 : Hid (g1.size = mm ∧ g2.size = mm ∧ Tk base tb vp vh p [] (u + L) 0 w2 ∧ Kp (fun b => b = tb) w1 w2) := ⟨s1, s2, t2, k2⟩
        have NC' : Hid (Calls _ _ _ _ _) := NC.out w2 t2
        clear s1 s2 t2 k2
        go_wp2_with fail
        refine NC'.out.mono ?_
        rintro e w3 ⟨rfl, t3, k3⟩
        have Q3 : Hid (Tk base tb vp vh p [] (u + L + 1) 0 w3 ∧ Kp (fun b => b = tb) w1 w3) := ⟨t3, Q2.out.2.2.2.trans k3⟩
        have RC' : Hid (Calls _ _ _ _ _) := RC.out w3 Q2.out.2.1 t3.tab
        clear t3 k3
        go_wp2_with fail
        refine RC'.out.mono ?_
        rintro e w4 ⟨rfl, hb4⟩
        have B4 : Hid (Below w3.heap.size w3 w4) := hb4
        clear hb4
        go_wp2
        go_ret2
        unfold Gav
        rw [FIN.out.2, FIN.out.1, List.length_append, HLL.out, HMM.out]
        exact ⟨rfl, Q2.out.1, HSZ.out, Q3.out.1.keep B4.out, Q3.out.2.trans (Kp.of_below B4.out)⟩
      · -- the left half is old, and more
        have hk : lkC m a b = 3 := by unfold lkC; rw [if_neg (fun h => hbm h.2), if_neg (by omega), if_neg (by omega)]
        have h0l : ¬ (a = 0 ∧ a + half (b - a) = m) := fun h => by omega
        have hwr := WL_take (lkC_old h0l (show a + half (b - a) ≤ m by omega))
        have hwl := WL_right (lk := lkC m) (a := a) (b := b) (by omega) h2n
        rw [hwl, hwr, List.length_append] at hu
        have st := go_stateG wd m old (b - a - half (b - a)) (a + half (b - a)) b (p.drop u) (by omega) (by omega)
        rw [List.drop_drop] at st
        have I1 : Hid (Calls _ _ _ _ _) := ih (b - a - half (b - a)) (by omega) (a + half (b - a)) b u w (by omega) (by omega) hmb hb t (by omega)
        have hu2 : u + (WL (lkC m) (a + half (b - a)) b).length < p.length := by simp at hu; omega
        have NC : Hid (∀ w', Tk base tb vp vh p [] (u + (WL (lkC m) (a + half (b - a)) b).length) 0 w' → Calls _ _ _ _ _) := fun w' t' => nextD base tb vp vh p [] _ 0 w' t' hu2 zp
        have hzy := size_at hp hu2
        have hgo : (go (WG wd m old) (p.drop u) (a + half (b - a)) b).1.1.size = wid wd → go (WG wd m old) (p.drop u) a b = ((NF wd (p.getD (u + (WL (lkC m) (a + half (b - a)) b).length) ByteArray.empty) (go (WG wd m old) (p.drop u) (a + half (b - a)) b).1.1, NF wd (p.getD (u + (WL (lkC m) (a + half (b - a)) b).length) ByteArray.empty) (go (WG wd m old) (p.drop u) (a + half (b - a)) b).1.2), p.drop (u + (WL (lkC m) (a + half (b - a)) b).length + 1)) := fun hz => by
          have e : (WG wd m old).lk (p.drop u) a b = (3, p.drop u) := by show (lkC m a b, _) = _; rw [hk]
          rw [go_right (by rw [e]; exact Nat.le_refl _) h2n, e]
          simp only
          rw [st, go_old wd old _ h0l (by omega) ha, headD_drop, List.drop_drop]
          show ((if (go (WG wd m old) (p.drop u) (a + half (b - a)) b).1.1 = ⟨#[]⟩ then _ else _, _), _) = _
          rw [if_neg]
          intro he
          rw [he] at hz
          have h1 := pi.wid_pos wd
          have h2 : (⟨#[]⟩ : ByteArray).size = 0 := rfl
          omega
        unfold Gav at I1
        have FIN : Hid (WL (lkC m) a b = WL (lkC m) (a + half (b - a)) b ++ [(a, a + half (b - a))] ∧ (_ → go (WG wd m old) (p.drop u) a b = _)) := ⟨by rw [hwl, hwr], hgo⟩
        obtain ⟨k, HK⟩ : ∃ k, Hid (half (b - a) = k) := ⟨_, rfl⟩
        rw [HK.out] at SP I1 NC FIN hh2 hmk hzy
        obtain ⟨L, HLL⟩ : ∃ L, Hid ((WL (lkC m) (a + k) b).length = L) := ⟨_, rfl⟩
        obtain ⟨G, HG⟩ : ∃ G, Hid (go (WG wd m old) (p.drop u) (a + k) b = G) := ⟨_, rfl⟩
        rw [HLL.out] at I1 NC FIN hzy
        rw [HG.out] at I1 FIN
        obtain ⟨y, HY⟩ : ∃ y, Hid (p.getD (u + L) ByteArray.empty = y) := ⟨_, rfl⟩
        rw [HY.out] at NC FIN hzy
        obtain ⟨⟨g1, g2⟩, g3⟩ := G
        simp only at I1 FIN
        have RC : Hid (∀ w', g1.size = wid wd → Tab4 w' → Calls _ _ _ _ _) := fun w' z t' => rNode ((wid wd : Nat) : Int) y g1 (by omega) w' t'
        have RD : Hid (∀ w', g2.size = wid wd → Tab4 w' → Calls _ _ _ _ _) := fun w' z t' => rNode ((wid wd : Nat) : Int) y g2 (by omega) w' t'
        rw [NF_wid] at RC RD
        have HSZ : Hid ((NF wd y g1).size = wid wd ∧ (NF wd y g2).size = wid wd) := ⟨NF_size _ _ _, NF_size _ _ _⟩
        obtain ⟨r1, HR1⟩ : ∃ r, Hid (NF wd y g1 = r) := ⟨_, rfl⟩
        obtain ⟨r2, HR2⟩ : ∃ r, Hid (NF wd y g2 = r) := ⟨_, rfl⟩
        rw [HR1.out] at RC FIN HSZ
        rw [HR2.out] at RD FIN HSZ
        obtain ⟨mm, HMM⟩ : ∃ q, Hid (wid wd = q) := ⟨_, rfl⟩
        rw [HMM.out] at I1 RC RD HSZ FIN ⊢
        have z2 : (m : Int) - ((a + k : Nat) : Int) = (m : Int) - a - k := by omega
        have z3 : (b : Int) - ((a + k : Nat) : Int) = (b : Int) - a - k := by omega
        have hd : decide (a + k = 0) = false := decide_eq_false (by omega)
        rw [z2, z3, hd] at I1
        have q1 : ¬ (m : Int) - a ≤ k := by omega
        have hw1 : IntKind.i64.wrap ((m : Int) - a - k) = (m : Int) - a - k := by rw [IntKind.wrap_i64]; omega
        have hw2 : IntKind.i64.wrap ((b : Int) - a - k) = (b : Int) - a - k := by rw [IntKind.wrap_i64]; omega
        generalize decide (a = 0) = wh at *
        clear ih t hu hk hn st hgo hwl hwr hu2 h32 ho hzy
        go_enter Tryd.func60, Tryd.ntmps60
        go_wp2_with fail
        refine (SP.out _).mono ?_
        rintro e w1 ⟨rfl, hw⟩
        subst hw
        go_wp2_with fail
        refine I1.out.mono ?_
        rintro e w2 ⟨rfl, s1, s2, t2, k2⟩
        have Q2 : Hid (g1.size = mm ∧ g2.size = mm ∧ Tk base tb vp vh p [] (u + L) 0 w2 ∧ Kp (fun b => b = tb) w1 w2) := ⟨s1, s2, t2, k2⟩
        have NC' : Hid (Calls _ _ _ _ _) := NC.out w2 t2
        clear s1 s2 t2 k2
        go_wp2_with fail
        refine NC'.out.mono ?_
        rintro e w3 ⟨rfl, t3, k3⟩
        have Q3 : Hid (Tk base tb vp vh p [] (u + L + 1) 0 w3 ∧ Kp (fun b => b = tb) w1 w3) := ⟨t3, Q2.out.2.2.2.trans k3⟩
        have RC' : Hid (Calls _ _ _ _ _) := RC.out w3 Q2.out.1 t3.tab
        clear t3 k3
        go_wp2_with fail
        refine RC'.out.mono ?_
        rintro e w4 ⟨rfl, hb4⟩
        have B4 : Hid (Below w3.heap.size w3 w4) := hb4
        have RD' : Hid (Calls _ _ _ _ _) := RD.out w4 Q2.out.2.1 (Q3.out.1.keep hb4).tab
        clear hb4
        go_wp2_with fail
        refine RD'.out.mono ?_
        rintro e w5 ⟨rfl, hb5⟩
        have B5 : Hid (Below w3.heap.size w3 w5) := over B4.out hb5
        clear hb5
        go_wp2
        go_ret2
        unfold Gav
        rw [FIN.out.2 Q2.out.1, FIN.out.1, List.length_append, HLL.out, HMM.out]
        exact ⟨rfl, HSZ.out.1, HSZ.out.2, Q3.out.1.keep B5.out, Q3.out.2.trans (Kp.of_below B5.out)⟩
end Go.Proofs.YthmfljjpanghgaaDoor.qx

namespace Go.Proofs.YthmfljjpanghgaaDoor.qy
open Go.RowKit Go.PlainAid
open Go.Proofs.YthmfljjpanghgaaDoor.pl Go.Proofs.YthmfljjpanghgaaDoor.pi Go.Proofs.YthmfljjpanghgaaDoor.pj Go.Proofs.YthmfljjpanghgaaDoor.rf Go.Proofs.YthmfljjpanghgaaDoor.ca Go.Proofs.YthmfljjpanghgaaDoor.cb Go.Proofs.YthmfljjpanghgaaDoor.cp Go.Proofs.YthmfljjpanghgaaDoor.ga Go.Proofs.YthmfljjpanghgaaDoor.aa Go.Proofs.YthmfljjpanghgaaDoor.ka Go.Proofs.YthmfljjpanghgaaDoor.kb Go.Proofs.YthmfljjpanghgaaDoor.kc Go.Proofs.YthmfljjpanghgaaDoor.kp Go.Proofs.YthmfljjpanghgaaDoor.lk Go.Proofs.YthmfljjpanghgaaDoor.mi Go.Proofs.YthmfljjpanghgaaDoor.lm Go.Proofs.YthmfljjpanghgaaDoor.co Go.Proofs.YthmfljjpanghgaaDoor.cn Go.Proofs.YthmfljjpanghgaaDoor.dc Go.Proofs.YthmfljjpanghgaaDoor.df Go.Proofs.YthmfljjpanghgaaDoor.qa Go.Proofs.YthmfljjpanghgaaDoor.qb Go.Proofs.YthmfljjpanghgaaDoor.qc Go.Proofs.YthmfljjpanghgaaDoor.qe Go.Proofs.YthmfljjpanghgaaDoor.qi Go.Proofs.YthmfljjpanghgaaDoor.wb Go.Proofs.YthmfljjpanghgaaDoor.qr Go.Proofs.YthmfljjpanghgaaDoor.qs Go.Proofs.YthmfljjpanghgaaDoor.qt Go.Proofs.YthmfljjpanghgaaDoor.qu Go.Proofs.YthmfljjpanghgaaDoor.qv Go.Proofs.YthmfljjpanghgaaDoor.qw Go.Proofs.YthmfljjpanghgaaDoor.qx
open Go.Proofs.YthmfljjpanghgaaDoor.qd (reads_nilI two_reads)
set_option linter.unusedVariables false
set_option linter.unusedSimpArgs false
theorem EF_wid (wd : Int) : EF ((wid wd : Nat) : Int) = EF wd := by
  unfold EF cutS
  rw [wid_wid]
set_option maxRecDepth 100000 in
set_option maxHeartbeats 6400000 in
theorem rCons (wd m n : Int) (old root : ByteArray) (vp : Value) (proof : List ByteArray) (w : World) (hp : ReadsT w vp proof) (zp : proof.length ≤ 140737488355328) (hT : Tab4 w) :
    Calls Tryd.prog 25 #[.int .i64 wd, .int .i64 m, .int .i64 n, .string old, .string root, vp] w fun e w' => e = .returned (.int .i64 (conA wd m n old root proof)) ∧ Below w.heap.size w w' := by
  have CC : Hid (Calls _ _ _ _ _) := rCount 2 m 0 n (.slice none 0 0) [] w (reads_nilI w) (by simp)
  unfold Counted at CC
  have WC : Hid (∀ w, Calls _ _ _ _ _) := fun w => widthD wd w
  have RH : Hid (∀ w1, Below w.heap.size w w1 → Calls _ _ _ _ _) := fun w1 b => lookedD wd (cnt9 2 m 0 n []).1 vp _ proof [old, root] _ ((hp.later b).later ((Below.refl _ _).alloc (Nat.le_refl _) _)) (two_reads w1 old root) zp (by simp)
  have HP : Hid (ReadsT w vp proof ∧ Tab4 w) := ⟨hp, hT⟩
  have hp2 := hp
  obtain ⟨pa, pc, rfl, _⟩ := hp
  unfold conA
  by_cases h : conR wd m n proof [old, root] = 0
  · obtain ⟨M, N, rfl, rfl, q1, q2, q3, q4, q5, q6⟩ := conR_ok h
    have hrh : rH wd (proof.length : Int) proof [old, root] = 0 := by
      unfold conR at h
      rw [q6] at h
      simpa using h
    rw [if_pos h]
    rw [q6] at CC RH
    simp only at CC RH
    rw [hrh] at RH
    obtain ⟨l, HL⟩ : ∃ l, Hid (proof.length = l) := ⟨_, rfl⟩
    rw [HL.out] at CC RH HP ⊢
    have hzl : l ≤ 140737488355328 := by rw [← HL.out]; exact zp
    by_cases h0 : M = 0
    · subst h0
      have z0 : ((0 : Nat) : Int) = 0 := rfl
      rw [z0] at CC ⊢
      rw [if_pos rfl]
      have CB : Hid (∀ w1, Below w.heap.size w w1 → Calls _ _ _ _ _) := fun w1 b => rEmpty ((wid wd : Nat) : Int) w1 (HP.out.2.down b)
      rw [EF_wid] at CB
      have hx : ∃ c1 c2 c3 : Bool, Hid (begA wd (N : Int) old root = (if c1 then (if c2 then 0 else (if c3 then 0 else 90)) else 90)) ∧ (old.toList == (EF wd).toList) = c1 ∧ ((N : Int) == 0) = !c2 ∧ (root.toList == old.toList) = c3 := by
        refine ⟨_, !((N : Int) == 0), _, ?_, rfl, by simp, rfl⟩
        show _ = _
        unfold begA
        rw [beqL, beqL]
        have c1e : decide (old = EF wd) = decide (EF wd = old) := by
          by_cases a3 : EF wd = old
          · rw [decide_eq_true a3, decide_eq_true a3.symm]
          · rw [decide_eq_false a3, decide_eq_false (fun h => a3 h.symm)]
        rw [c1e]
        generalize EF wd = E
        by_cases a1 : (N : Int) = 0 <;> by_cases a2 : root = old <;> by_cases a3 : E = old <;> simp [a1, a2, a3]
      obtain ⟨c1, c2, c3, HX, e1, e2, e3⟩ := hx
      rw [HX.out]
      generalize EF wd = E at *
      obtain ⟨mm, HMM⟩ : ∃ q, Hid (wid wd = q) := ⟨_, rfl⟩
      rw [HMM.out] at WC RH CB
      clear h hrh q3 q4 q5 q6 hp2 zp hT
      cases c1 <;> cases c2 <;> cases c3
      all_goals (
        simp only [Bool.not_true, Bool.not_false] at e2
        go_enter Tryd.func25, Tryd.ntmps25
        go_wp2_with fail
        refine CC.out.mono ?_
        rintro _ w1 ⟨rfl, b1⟩
        have B1 : Hid (Below w.heap.size w w1) := b1
        have B2 : Hid (Below w.heap.size w (w1.alloc (.cells #[.string old, .string root] 9))) := over b1 ((Below.refl _ _).alloc (Nat.le_refl _) _)
        clear b1
        go_wp2_with fail
        refine (WC.out _).mono ?_
        rintro _ wz ⟨rfl, hwz⟩
        rw [hwz]
        clear hwz
        go_wp2_with fail
        refine (RH.out _ B1.out).mono ?_
        rintro _ wz ⟨rfl, hwz⟩
        rw [hwz]
        clear hwz
        go_wp2_with fail
        refine (CB.out _ B2.out).mono ?_
        rintro _ w3 ⟨rfl, b3⟩
        have B3 : Hid (Below w.heap.size w w3) := over B2.out b3
        clear b3
        go_wp2
        go_ret
        exact ⟨rfl, B3.out⟩)
    · rw [if_neg (by omega), Int.toNat_natCast, Int.toNat_natCast]
      rw [if_neg h0] at q3
      have m0 : ((M : Int) == 0) = false := by rw [beq_eq_false_iff_ne]; omega
      have GC : Hid (∀ w1, Below w.heap.size w w1 → Calls Tryd.prog 60 #[.int .i64 (wid wd : Nat), .int .i64 M, .int .i64 N, .bool true, .string old, .pointer (some ⟨w1.heap.size, 0, none⟩)] (w1.alloc (.cells #[.slice pa l pc, .int .i64 0, .slice none 0 0, .int .i64 0] 95)) fun e w' => e = .returned (.tuple #[.string (gw2 wd M N old proof).1, .string (gw2 wd M N old proof).2]) ∧ Below w.heap.size w w') := fun w1 b => by
        have b2 : Below w1.heap.size w1 (w1.alloc (.cells #[.slice pa l pc, .int .i64 0, .slice none 0 0, .int .i64 0] 95)) := (Below.refl _ _).alloc (Nat.le_refl _) _
        have b3 := over b b2
        have hr := Old.of (HP.out.1.later b)
        have kk : Kp no w1 (w1.alloc (.cells #[.slice pa l pc, .int .i64 0, .slice none 0 0, .int .i64 0] 95)) := Kp.of_below b2
        have hT1 := HP.out.2.down b
        have hnil : Old w1.heap.size w1 (.slice none 0 0) [] := Old.of ⟨none, 0, rfl, Nat.le_refl _, .inl rfl⟩
        have t : Tk w1.heap.size w1.heap.size (.slice pa l pc) (.slice none 0 0) proof [] 0 0 (w1.alloc (.cells #[.slice pa l pc, .int .i64 0, .slice none 0 0, .int .i64 0] 95)) := ⟨Nat.le_refl _, heap_alloc_new w1 _, hr.keep kk (fun _ e => e.elim), hnil.keep kk (fun _ e => e.elim), HP.out.2.down b3, ⟨hT1.big, b2.size⟩⟩
        have hg := rGrown wd M (by omega) old (q5 old (by simp)) w1.heap.size w1.heap.size (.slice pa l pc) (.slice none 0 0) proof q4 zp N 0 N 0 _ rfl (by omega) q1 q2 t (by rw [Nat.zero_add, q3]; exact Nat.le_refl _)
        rw [show ((M : Nat) : Int) - ((0 : Nat) : Int) = (M : Int) by omega, show ((N : Nat) : Int) - ((0 : Nat) : Int) = (N : Int) by omega, decide_eq_true rfl] at hg
        refine hg.mono fun e w' hh => ?_
        unfold Gav at hh
        rw [List.drop_zero] at hh
        obtain ⟨g1, _, _, _, g5⟩ := hh
        refine ⟨g1, b.trans ((Below.mono b2 b.size).trans ?_)⟩
        exact (g5.below (fun b e => by subst e; exact Nat.le_refl _) b2.size).mono b.size
      obtain ⟨G, HG⟩ : ∃ G, Hid (gw2 wd M N old proof = G) := ⟨_, rfl⟩
      rw [HG.out] at GC ⊢
      obtain ⟨g1, g2⟩ := G
      simp only at GC
      have hx : ∃ c1 c2 : Bool, Hid ((if (g1, g2) = (old, root) then (0 : Int) else 90) = (if c1 then (if c2 then 0 else 90) else 90)) ∧ (g1.toList == old.toList) = c1 ∧ (g2.toList == root.toList) = c2 := by
        refine ⟨_, _, ?_, rfl, rfl⟩
        show _ = _
        rw [beqL, beqL]
        by_cases a1 : g1 = old <;> by_cases a2 : g2 = root <;> simp [a1, a2]
      obtain ⟨c1, c2, HX, e1, e2⟩ := hx
      rw [HX.out]
      obtain ⟨mm, HMM⟩ : ∃ q, Hid (wid wd = q) := ⟨_, rfl⟩
      rw [HMM.out] at WC RH GC
      clear h hrh q3 q4 q5 q6 hp2 zp hT
      cases c1 <;> cases c2
      all_goals (
        go_enter Tryd.func25, Tryd.ntmps25
        go_wp2_with fail
        refine CC.out.mono ?_
        rintro _ w1 ⟨rfl, b1⟩
        have B1 : Hid (Below w.heap.size w w1) := b1
        have B2 : Hid (Below w.heap.size w (w1.alloc (.cells #[.string old, .string root] 9))) := over b1 ((Below.refl _ _).alloc (Nat.le_refl _) _)
        have hs1 : (w1.alloc (.cells #[.string old, .string root] 9)).heap.size = w1.heap.size + 1 := by simp
        have GC2 : Hid (Calls _ _ _ _ _) := GC.out _ B2.out
        rw [hs1] at GC2
        clear b1 hs1
        go_wp2_with fail
        refine (WC.out _).mono ?_
        rintro _ wz ⟨rfl, hwz⟩
        rw [hwz]
        clear hwz
        go_wp2_with fail
        refine (RH.out _ B1.out).mono ?_
        rintro _ wz ⟨rfl, hwz⟩
        rw [hwz]
        clear hwz
        go_wp2_with fail
        refine GC2.out.mono ?_
        rintro _ w3 ⟨rfl, b3⟩
        have B3 : Hid (Below w.heap.size w w3) := b3
        clear b3
        go_wp2
        go_ret
        exact ⟨rfl, B3.out⟩)
  · rw [if_neg h]
    obtain ⟨r, HRR⟩ : ∃ r, Hid (conR wd m n proof [old, root] = r) := ⟨_, rfl⟩
    have h' := h
    unfold conR at HRR h'
    obtain ⟨c, HC⟩ : ∃ c, Hid (cnt9 2 m 0 n [] = c) := ⟨_, rfl⟩
    rw [HC.out] at CC RH HRR h'
    obtain ⟨c1, c2⟩ := c
    simp only at CC RH HRR h'
    obtain ⟨l, HL⟩ : ∃ l, Hid (proof.length = l) := ⟨_, rfl⟩
    rw [HL.out] at RH HP ⊢
    obtain ⟨mm, HMM⟩ : ∃ q, Hid (wid wd = q) := ⟨_, rfl⟩
    rw [HMM.out] at WC RH
    by_cases hc : c2 = 0
    · rw [if_pos hc] at HRR h'
      have hr : conR wd m n proof [old, root] = r := by unfold conR; rw [HC.out]; simp only; rw [if_pos hc]; exact HRR.out
      rw [HRR.out] at RH h'
      subst hc
      rw [hr]
      have q : (r != 0) = true := by rw [bne_iff_ne]; exact h'
      clear h h' hp2 zp hT hr
      go_enter Tryd.func25, Tryd.ntmps25
      go_wp2_with fail
      refine CC.out.mono ?_
      rintro _ w1 ⟨rfl, b1⟩
      have B1 : Hid (Below w.heap.size w w1) := b1
      have B2 : Hid (Below w.heap.size w (w1.alloc (.cells #[.string old, .string root] 9))) := over b1 ((Below.refl _ _).alloc (Nat.le_refl _) _)
      clear b1
      go_wp2_with fail
      refine (WC.out _).mono ?_
      rintro _ wz ⟨rfl, hwz⟩
      rw [hwz]
      clear hwz
      go_wp2_with fail
      refine (RH.out _ B1.out).mono ?_
      rintro _ wz ⟨rfl, hwz⟩
      rw [hwz]
      clear hwz
      go_wp2
      go_ret
      exact ⟨rfl, B2.out⟩
    · rw [if_neg hc] at HRR h'
      have hr : conR wd m n proof [old, root] = c2 := by unfold conR; rw [HC.out]; simp only; rw [if_neg hc]
      rw [hr]
      have q : (c2 != 0) = true := by rw [bne_iff_ne]; exact hc
      clear h h' hp2 zp hT hr hc HRR
      go_enter Tryd.func25, Tryd.ntmps25
      go_wp2_with fail
      refine CC.out.mono ?_
      rintro _ w1 ⟨rfl, b1⟩
      have B1 : Hid (Below w.heap.size w w1) := b1
      clear b1
      go_wp2
      go_ret
      exact ⟨rfl, B1.out⟩
end Go.Proofs.YthmfljjpanghgaaDoor.qy

namespace Go.Proofs.YthmfljjpanghgaaDoor.lq
open Go.RowKit Go.PlainAid
open Go.Proofs.YthmfljjpanghgaaDoor.pl Go.Proofs.YthmfljjpanghgaaDoor.pi Go.Proofs.YthmfljjpanghgaaDoor.pj Go.Proofs.YthmfljjpanghgaaDoor.rf Go.Proofs.YthmfljjpanghgaaDoor.ca Go.Proofs.YthmfljjpanghgaaDoor.cb Go.Proofs.YthmfljjpanghgaaDoor.cp Go.Proofs.YthmfljjpanghgaaDoor.cv Go.Proofs.YthmfljjpanghgaaDoor.ga Go.Proofs.YthmfljjpanghgaaDoor.aa Go.Proofs.YthmfljjpanghgaaDoor.ka Go.Proofs.YthmfljjpanghgaaDoor.kb Go.Proofs.YthmfljjpanghgaaDoor.kp Go.Proofs.YthmfljjpanghgaaDoor.qb Go.Proofs.YthmfljjpanghgaaDoor.qc Go.Proofs.YthmfljjpanghgaaDoor.qw Go.Proofs.YthmfljjpanghgaaDoor.qy Go.Proofs.YthmfljjpanghgaaDoor.ts Go.Proofs.YthmfljjpanghgaaDoor.sk
set_option linter.unusedVariables false
set_option maxHeartbeats 1600000 in
theorem cons_walk (w : World) (wd : Int) (w0 : (Lit.int .i64 wd).wf = true) (m : Int) (w1 : (Lit.int .i64 m).wf = true) (n : Int) (w2 : (Lit.int .i64 n).wf = true) (old : ByteArray) (zh : old.size ≤ 140737488351232) (root : ByteArray) (zr : root.size ≤ 140737488351232) (v : Value) (xs : List ByteArray) (hR : ReadsT w v xs) (hno : ∀ k c, v = .slice none k c → c = 0) (hxs : ∀ x ∈ xs, x.size ≤ 140737488351232) (hz : xs.length * 16 ≤ 140737488351232) (T : Tab4 w) :
    Calls Tryd.prog 5 #[.int .i64 wd, .int .i64 m, .int .i64 n, .string old, .string root, v] w fun e w' => e = .returned (.bool true) ∧ Below w.heap.size w w' := by
  have TC : Hid (Calls _ _ _ _ _) := twinC v xs w hR hno hz
  have hwd := i64_of w0
  have PL : Hid (∀ w v, ReadsT w v xs → Tab w → Calls _ _ _ _ _) := fun w v h t => consC wd m n hwd old root v xs w h (by omega) t
  have DL : Hid (∀ w, ReadsT w v xs → Tab4 w → Calls _ _ _ _ _) := fun w h t => rCons wd m n old root v xs w h (by omega) t
  have HR : Hid (ReadsT w v xs ∧ Tab4 w) := ⟨hR, T⟩
  have SC : Hid (∀ B g cp w', Tw w' B g xs.length cp xs → ReadsT w' v xs → Calls _ _ _ _ _) := fun B g cp w' h1 h2 => keptC B g xs.length cp v xs w' rfl h1 h2 (by omega)
  obtain ⟨va, cap, rfl, _⟩ := hR
  obtain ⟨l, HL⟩ : ∃ l, Hid (xs.length = l) := ⟨_, rfl⟩
  obtain ⟨d, HD⟩ : ∃ d, Hid (conA wd m n old root xs = d) := ⟨_, rfl⟩
  rw [HD.out] at PL DL
  rw [HL.out] at TC HR SC DL ⊢
  have q3 : (d == d) = true := beq_self_eq_true _
  clear hno hz w0 w1 w2 hxs zh zr hwd T
  go_enter Tryd.func5, Tryd.ntmps5
  go_wp2_with fail
  refine TC.out.mono ?_
  rintro e w1 ⟨⟨g, cp, rfl, ht⟩, hb1⟩
  have B1 : Hid (Below w.heap.size w w1) := hb1
  have T1 : Hid (Tw w1 w.heap.size g l cp xs) := ht
  clear ht hb1
  go_wp2_with fail
  refine (PL.out _ _ (T1.out.reads HL.out) (HR.out.2.down B1.out).t).mono ?_
  rintro e w2 ⟨rfl, hb2⟩
  have B2 : Hid (Below w.heap.size w w2) := over B1.out hb2
  have T2 : Hid (Tw w2 w.heap.size g l cp xs) := T1.out.later hb2
  clear hb2
  go_wp2_with fail
  refine (DL.out _ (HR.out.1.later B2.out) (HR.out.2.down B2.out)).mono ?_
  rintro e w3 ⟨rfl, hb3⟩
  have B3 : Hid (Below w.heap.size w w3) := over B2.out hb3
  have T3 : Hid (Tw w3 w.heap.size g l cp xs) := T2.out.later hb3
  clear hb3
  go_wp2_with fail
  refine (SC.out _ g cp _ T3.out (HR.out.1.later B3.out)).mono ?_
  rintro e w6 ⟨rfl, m', hw⟩
  have B6 : Hid (Below w.heap.size w w6) := by subst hw; exact over B3.out (df.below_dw _ _)
  clear hw
  go_wp2
  go_ret
  exact ⟨by first | rfl | simp, B6.out⟩
end Go.Proofs.YthmfljjpanghgaaDoor.lq
