import Derived.Test.YtlkkibiedlakfaaGreatYm
namespace Go.Proofs.YtlkkibiedlakfaaGreat.yn
open Go.RowKit Go.PlainAid Go.Maps Go.Shelf
open Go.Proofs.YtlkkibiedlakfaaGreat.ca Go.Proofs.YtlkkibiedlakfaaGreat.cb Go.Proofs.YtlkkibiedlakfaaGreat.cp Go.Proofs.YtlkkibiedlakfaaGreat.kp Go.Proofs.YtlkkibiedlakfaaGreat.ka Go.Proofs.YtlkkibiedlakfaaGreat.ya Go.Proofs.YtlkkibiedlakfaaGreat.yb Go.Proofs.YtlkkibiedlakfaaGreat.yc Go.Proofs.YtlkkibiedlakfaaGreat.yd Go.Proofs.YtlkkibiedlakfaaGreat.ye Go.Proofs.YtlkkibiedlakfaaGreat.yf Go.Proofs.YtlkkibiedlakfaaGreat.yg Go.Proofs.YtlkkibiedlakfaaGreat.yh Go.Proofs.YtlkkibiedlakfaaGreat.yi Go.Proofs.YtlkkibiedlakfaaGreat.yl Go.Proofs.YtlkkibiedlakfaaGreat.ym Go.Proofs.YtlkkibiedlakfaaGreat.sb Go.Proofs.YtlkkibiedlakfaaGreat.mc
set_option linter.unusedVariables false
set_option linter.unusedSimpArgs false
theorem kd_yes {keep : ByteArray} {l : List W} {r : List Rec} {j : Nat} {x : W} (hx : l[j]? = some x) (h : surv keep j = true) : kdN keep l r (j + 1) = doW (kdN keep l r j) x := by rw [kdN, hx]; simp only; rw [if_pos h]
theorem kd_no {keep : ByteArray} {l : List W} {r : List Rec} {j : Nat} {x : W} (hx : l[j]? = some x) (h : surv keep j = false) : kdN keep l r (j + 1) = kdN keep l r j := by rw [kdN, hx]; simp only; rw [if_neg (by rw [h]; decide)]
theorem tb_next {rd rn : List Rec} {l : List W} {j : Nat} {x : W} (hx : l[j]? = some x) : tbN rd l rn (j + 1) = tb rd (tbN rd l rn j) x.key := by rw [tbN, hx]
set_option maxRecDepth 20000 in
set_option maxHeartbeats 12800000 in
theorem crashC {B g bn bd : Nat} {pv : Value} {s : S} {w : World} (keep : ByteArray) (h : Sr B g bn bd pv s w) (hk : keep.size ≤ 140737488355328) (ha : s.age < 4398046511104) :
    Calls Tryz.prog 15 #[.pointer (some ⟨g, 0, none⟩), .string keep] w fun e w' => e = .returned (.tuple #[]) ∧ Rn B g bn bd pv (crashS s keep) w w' := by
  have OK : Hid (OkS s) := h.ok
  obtain ⟨l, HLL⟩ : ∃ l, Hid (s.pend = l) := ⟨_, rfl⟩
  have G1 : Hid (Sq B g bn bd pv (tot (now s)) (now s) s.dur l.length (wcs bd l) s w) := by have := sq_of h; rw [HLL.out] at this; exact this
  have hfm : ∃ a c, pv = .slice a l.length c := own_formS G1.out.pr
  obtain ⟨pa, pc, rfl⟩ := hfm
  have c2 := G1.out.row.c2
  have hll : s.dur.length + l.length < 3518437208883 := by have := OK.out.len; rw [HLL.out] at this; exact this
  have hll2 : l.length < 3518437208883 := by omega
  have HPW : Hid (∀ x ∈ l, OkW x) := by have := OK.out.pend; rw [HLL.out] at this; exact this
  have CO : Hid (∀ w, Calls _ _ _ _ _) := fun w => orNoneC g w
  clear h
  go_enter Tryz.func15, Tryz.ntmps15
  go_wp2_with (first | (go_at_call 51; refine (CO.out _).mono ?_; rintro _ _ ⟨rfl, hw⟩; rw [hw]; clear hw) | go_in)
  go_loopw [15] (fun i wr => ∃ j : Nat, i = .int .i64 j ∧ j ≤ l.length ∧ Hid (Sq B g bn bd (.slice pa l.length pc) (tot (now s)) (now s) (kdN keep l s.dur j) l.length (wcs bd l) s wr ∧ Kp (Fr g bn bd (.slice pa l.length pc)) w wr)) (fun i _ => (l.length - intOf i).toNat)
  case atStart => exact ⟨0, rfl, Nat.zero_le _, G1.out, Kp.refl _ _⟩
  case round =>
    obtain ⟨j, rfl, hj, HH⟩ := hrel
    by_cases hlt : j < l.length
    · have hlt' : (j : Int) < l.length := by omega
      obtain ⟨x, hx⟩ : ∃ x, l[j]? = some x := ⟨_, List.getElem?_eq_getElem hlt⟩
      obtain ⟨q, c, e, d0, d1, d2⟩ := pend_cells HH.out.1 j x hx
      injection e with e1 _ e2
      subst e1 e2
      have hok : OkW x := HPW.out x (List.mem_of_getElem? hx)
      have HL : Hid (∀ w1, Below wr.heap.size wr w1 → Calls _ _ _ _ _) := fun w1 b1 => landC bd (kdN keep l s.dur j) x w1 ((HH.out.1.later b1).md) hok (by have := len_kd keep l s.dur j; unfold maxLen; omega)
      have HNX : Hid (surv keep j = true → ∀ w1 w2, Below wr.heap.size wr w1 → Mp bd (doW (kdN keep l s.dur j) x) w2 → Kp (fun k => k = bd) w1 w2 → Sq B g bn bd (.slice (some ⟨q, 0, none⟩) l.length pc) (tot (now s)) (now s) (kdN keep l s.dur (j + 1)) l.length (wcs bd l) s w2 ∧ Kp (Fr g bn bd (.slice (some ⟨q, 0, none⟩) l.length pc)) w w2) := fun hs w1 w2 b1 m2 k2 => by
        rw [kd_yes hx hs]
        exact ⟨(HH.out.1.later b1).dm m2 k2, (HH.out.2.trans (Kp.of_below b1)).trans (fr_d k2)⟩
      have HNO : Hid (surv keep j = false → ∀ w1, Below wr.heap.size wr w1 → Sq B g bn bd (.slice (some ⟨q, 0, none⟩) l.length pc) (tot (now s)) (now s) (kdN keep l s.dur (j + 1)) l.length (wcs bd l) s w1 ∧ Kp (Fr g bn bd (.slice (some ⟨q, 0, none⟩) l.length pc)) w w1) := fun hs w1 b1 => by
        rw [kd_no hx hs]
        exact ⟨HH.out.1.later b1, HH.out.2.trans (Kp.of_below b1)⟩
      obtain ⟨f, hf⟩ : ∃ f, fnV bd x.cut = .func (.func f) #[.map (some bd)] #[] := ⟨_, rfl⟩
      obtain ⟨xk, hxk⟩ : ∃ xk, x.key = xk := ⟨_, rfl⟩
      obtain ⟨xd, hxd⟩ : ∃ xd, x.data = xd := ⟨_, rfl⟩
      rw [hf] at d0 HL
      rw [hxk] at d1 HL
      rw [hxd] at d2 HL
      have HB : Hid (∀ o, Below wr.heap.size wr (wr.alloc o)) := fun o => (Below.refl _ wr).alloc (Nat.le_refl _) _
      have CV : Hid (∀ w, Calls _ _ _ _ _) := fun w => survC keep j w hk (by omega)
      clear HH hok hx hf hxk hxd
      rw [Nat.mul_comm] at d0 d1 d2
      cases hs : surv keep j with
      | true =>
        rw [hs] at CV
        go_wp2_with (first | (go_at_call 52; refine (CV.out _).mono ?_; rintro _ _ ⟨rfl, hw⟩; rw [hw]; clear hw) | (go_at_call 53; refine (HL.out _ (HB.out _)).mono ?_; rintro _ w3 ⟨rfl, m3, k3⟩; have F3 : Hid _ := HNX.out hs _ _ (HB.out _) m3 k3; clear m3 k3) | go_in)
        go_roundw
        case rel => exact ⟨j + 1, by go_num, by omega, F3.out⟩
        case measure => simp [intOf]; omega
      | false =>
        rw [hs] at CV
        go_wp2_with (first | (go_at_call 52; refine (CV.out _).mono ?_; rintro _ _ ⟨rfl, hw⟩; rw [hw]; clear hw) | go_in)
        go_roundw
        case rel => exact ⟨j + 1, by go_num, by omega, HNO.out hs _ (HB.out _)⟩
        case measure => simp [intOf]; omega
    · have hlt' : ¬ (j : Int) < l.length := by omega
      have hjl : j = l.length := by omega
      subst hjl
      obtain ⟨rd, HRD⟩ : ∃ rd, Hid (kdN keep l s.dur l.length = rd) := ⟨_, rfl⟩
      have G2 : Hid (Sq B g bn bd (.slice pa l.length pc) (tot (now s)) (now s) rd l.length (wcs bd l) s wr ∧ Kp (Fr g bn bd (.slice pa l.length pc)) w wr) := by rw [← HRD.out]; exact HH.out
      have OD : Hid (OkR rd ∧ Srt rd ∧ rd.length < 3518437208883) := by rw [← HRD.out]; exact ⟨ok_kd OK.out.dur HPW.out _, srt_kd OK.out.srt _, by have := len_kd keep l s.dur l.length; omega⟩
      have c22 := G2.out.1.row.c2
      clear HH
      go_wp2_with fail
      go_loopw [31] (fun i wr => ∃ j : Nat, i = .int .i64 j ∧ j ≤ l.length ∧ Hid (Sq B g bn bd (.slice pa l.length pc) (tot (tbN rd l (now s) j)) (tbN rd l (now s) j) rd l.length (wcs bd l) s wr ∧ Kp (Fr g bn bd (.slice pa l.length pc)) w wr)) (fun i _ => (l.length - intOf i).toNat)
      case atStart => exact ⟨0, rfl, Nat.zero_le _, G2.out⟩
      case round =>
        clear c22 G2
        obtain ⟨j, rfl, hj, HH⟩ := hrel
        by_cases hlt : j < l.length
        · have hlt' : (j : Int) < l.length := by omega
          obtain ⟨x, hx⟩ : ∃ x, l[j]? = some x := ⟨_, List.getElem?_eq_getElem hlt⟩
          obtain ⟨q, c, e, d0, d1, d2⟩ := pend_cells HH.out.1 j x hx
          injection e with e1 _ e2
          subst e1 e2
          have hok : OkW x := HPW.out x (List.mem_of_getElem? hx)
          have HT : Hid (∀ w1, Below wr.heap.size wr w1 → Calls _ _ _ _ _) := fun w1 b1 => takeBackC (HH.out.1.later b1) x.key (by have := hok.2.1; omega) (ok_tbN OD.out.1 OK.out.now j) OD.out.1 (by have := len_tbN rd (now s) l j; have := len_do s.dur s.pend; rw [HLL.out] at this; unfold now; rw [HLL.out]; unfold now at *; rw [HLL.out] at *; omega)
          have HNX : Hid (∀ w1 w2, Below wr.heap.size wr w1 → Sq B g bn bd (.slice (some ⟨q, 0, none⟩) l.length pc) (tot (tb rd (tbN rd l (now s) j) x.key)) (tb rd (tbN rd l (now s) j) x.key) rd l.length (wcs bd l) s w2 → Kp (Fr g bn bd (.slice (some ⟨q, 0, none⟩) l.length pc)) w1 w2 → Sq B g bn bd (.slice (some ⟨q, 0, none⟩) l.length pc) (tot (tbN rd l (now s) (j + 1))) (tbN rd l (now s) (j + 1)) rd l.length (wcs bd l) s w2 ∧ Kp (Fr g bn bd (.slice (some ⟨q, 0, none⟩) l.length pc)) w w2) := fun w1 w2 b1 m2 k2 => by
            rw [tb_next hx]
            exact ⟨m2, (HH.out.2.trans (Kp.of_below b1)).trans k2⟩
          obtain ⟨f, hf⟩ : ∃ f, fnV bd x.cut = .func (.func f) #[.map (some bd)] #[] := ⟨_, rfl⟩
          obtain ⟨xk, hxk⟩ : ∃ xk, x.key = xk := ⟨_, rfl⟩
          obtain ⟨xd, hxd⟩ : ∃ xd, x.data = xd := ⟨_, rfl⟩
          rw [hf] at d0
          rw [hxk] at d1 HT HNX
          rw [hxd] at d2
          have HB : Hid (∀ o, Below wr.heap.size wr (wr.alloc o)) := fun o => (Below.refl _ wr).alloc (Nat.le_refl _) _
          clear HH hok hx hf hxk hxd
          rw [Nat.mul_comm] at d0 d1 d2
          go_wp2_with (first | (go_at_call 54; refine (HT.out _ (HB.out _)).mono ?_; rintro _ w3 ⟨rfl, m3, k3⟩; have F3 : Hid _ := HNX.out _ _ (HB.out _) m3 k3; clear m3 k3) | go_in)
          go_roundw
          case rel => exact ⟨j + 1, by go_num, by omega, F3.out⟩
          case measure => simp [intOf]; omega
        · have hlt' : ¬ (j : Int) < l.length := by omega
          have hjl : j = l.length := by omega
          subst hjl
          have G3 : Hid (Sq B g bn bd (.slice pa l.length pc) (tot rd) rd rd l.length (wcs bd l) s wr ∧ Kp (Fr g bn bd (.slice pa l.length pc)) w wr) := by
            have h1 := tb_all (keep := keep) (l := l) OK.out.srt
            rw [HRD.out] at h1
            have h2 := HH.out
            have e : now s = l.foldl doW s.dur := by unfold now; rw [HLL.out]
            rw [e, h1] at h2
            exact h2
          have c2 := G3.out.1.row.c2
          have f2 := G3.out.1.row.fz 2
          have Q1 : Hid (Sq B g bn bd (.slice none 0 0) (tot rd) rd rd 0 [] s (wr.setCell ⟨g, 2, none⟩ (.slice none 0 0))) := G3.out.1.pv (World.ownsRow_nil _ _ _ _)
          have f5 := Q1.out.row.fz 5
          have c5 := Q1.out.row.c5
          have Q2 : Hid (Sq B g bn bd (.slice none 0 0) (tot rd) rd rd 0 [] { s with armed := 0 } ((wr.setCell ⟨g, 2, none⟩ (.slice none 0 0)).setCell ⟨g, 5, none⟩ (.int .i64 0))) := Q1.out.st (Q1.out.row.set5 0) (Kp.setCell _ _ _ _ rfl)
          have f6 := Q2.out.row.fz 6
          have c6 := Q2.out.row.c6
          have Q3 : Hid (Sq B g bn bd (.slice none 0 0) (tot rd) rd rd 0 [] { s with armed := 0, off := false } (((wr.setCell ⟨g, 2, none⟩ (.slice none 0 0)).setCell ⟨g, 5, none⟩ (.int .i64 0)).setCell ⟨g, 6, none⟩ (.bool false))) := Q2.out.st (Q2.out.row.set6 false) (Kp.setCell _ _ _ _ rfl)
          have f7 := Q3.out.row.fz 7
          have c7 := Q3.out.row.c7
          have ea : ((s.age + 1 : Nat) : Int) = (s.age : Int) + 1 := by omega
          have Q4 : Hid (Sq B g bn bd (.slice none 0 0) (tot rd) rd rd 0 [] { s with armed := 0, off := false, age := s.age + 1 } ((((wr.setCell ⟨g, 2, none⟩ (.slice none 0 0)).setCell ⟨g, 5, none⟩ (.int .i64 0)).setCell ⟨g, 6, none⟩ (.bool false)).setCell ⟨g, 7, none⟩ (.int .i64 ((s.age : Int) + 1)))) := by
            have := Q3.out.st (Q3.out.row.set7 (s.age + 1)) (Kp.setCell _ _ _ _ rfl)
            rw [ea] at this
            exact this
          have Q5 : Hid (Rn B g bn bd (.slice pa l.length pc) (crashS s keep) w ((((wr.setCell ⟨g, 2, none⟩ (.slice none 0 0)).setCell ⟨g, 5, none⟩ (.int .i64 0)).setCell ⟨g, 6, none⟩ (.bool false)).setCell ⟨g, 7, none⟩ (.int .i64 ((s.age : Int) + 1)))) := by
            have e : crashS s keep = { ({ s with armed := 0, off := false, age := s.age + 1 } : S) with dur := rd, pend := [] } := by unfold crashS; rw [HLL.out, HRD.out]
            rw [e]
            refine ⟨.slice none 0 0, sq_settled Q4.out ?_, (((G3.out.2.trans (fr_g (Kp.setCell _ _ _ _ rfl))).trans (fr_g (Kp.setCell _ _ _ _ rfl))).trans (fr_g (Kp.setCell _ _ _ _ rfl))).trans (fr_g (Kp.setCell _ _ _ _ rfl)), fun k hk => absurd hk (by simp [Value.ownBlock])⟩
            exact ⟨OD.out.1, OD.out.2.1, (by intro x hx; cases hx), OK.out.cap0, OK.out.cap1, Nat.zero_le _, by show s.age + 1 ≤ _; omega, by have := OD.out.2.2; simpa using this⟩
          have hwa : IntKind.i64.wrap ((s.age : Int) + 1) = (s.age : Int) + 1 := by rw [← ea]; exact wrap_is _ (by omega)
          clear HH G3 Q1 Q2 Q3 Q4 ea
          go_wp2
          go_end0
          exact ⟨rfl, Q5.out⟩
end Go.Proofs.YtlkkibiedlakfaaGreat.yn
