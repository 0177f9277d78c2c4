import Derived.Test.YtjkkijeamcihiaaIg
namespace Go.Proofs.Ytjkkijeamcihiaa.im
open Go.RowKit Go.PlainAid Go.Maps
open Go.Proofs.Ytjkkijeamcihiaa.rd (Fx RP rp_adr adr_form)
open Go.Proofs.Ytjkkijeamcihiaa.kp Go.Proofs.Ytjkkijeamcihiaa.ra Go.Proofs.Ytjkkijeamcihiaa.ib Go.Proofs.Ytjkkijeamcihiaa.ic Go.Proofs.Ytjkkijeamcihiaa.id Go.Proofs.Ytjkkijeamcihiaa.ie Go.Proofs.Ytjkkijeamcihiaa.if Go.Proofs.Ytjkkijeamcihiaa.ig Go.Proofs.Ytjkkijeamcihiaa.sa
set_option linter.unusedVariables false
set_option linter.unusedSimpArgs false
section
variable {g mb : Nat} {s : St} {es : List (E V)} {w w' : World}
theorem getC (k : K) (h : Ch g mb s es w) (hk : okK k) (hh : s.hits < 4611686018427387904) (hm : s.misses < 4611686018427387904) :
    Calls Try.prog 50 #[pt ⟨g, 0, none⟩, .int .i64 k] w fun e w' => e = .returned (.tuple #[pr ((fnd k s.l).getD zv), .bool (fnd k s.l).isSome]) ∧ Rn g mb (getS s k) es w w' := by
  obtain ⟨r, HRr⟩ : ∃ r, Hid (w.heap.size = r) := ⟨_, rfl⟩
  obtain ⟨W, HW⟩ : ∃ W, Hid (w.alloc (.cells #[.string ⟨#[]⟩, .int .i64 0] 60) = W) := ⟨_, rfl⟩
  have B0 : Below w.heap.size w W := by rw [← HW.out]; exact (Below.refl _ _).alloc (Nat.le_refl _) _
  have h' := h.later B0
  have K0 : Kp (Fr g mb es) w W := Kp.of_below B0
  have c1 := h'.at1
  have c7 := h'.hits
  have c8 := h'.misses
  have f7 := h'.fz 7
  have f8 := h'.fz 8
  have HM : Hid (Mq mb es W) := h'.map
  have lts : ∀ j, Fr g mb es j → j < r := fun j hj => by rw [← HRr.out]; exact h.lt j hj
  have hgr : g ≠ r := by have := lts g (.inl rfl); omega
  have r0 : W.cell? ⟨r, 0, none⟩ = some (.string ⟨#[]⟩) := by rw [← HW.out, ← HRr.out, World.cell?_alloc_new]; rfl
  have r1 : W.cell? ⟨r, 1, none⟩ = some (.int .i64 0) := by rw [← HW.out, ← HRr.out, World.cell?_alloc_new]; rfl
  have f0 : ∀ i, W.frozen? ⟨r, i, none⟩ = false := fun i => by rw [← HW.out, ← HRr.out]; exact World.frozen?_alloc_new _ _ _ _
  have z1 : W.heap.size = w.heap.size + 1 := by rw [← HW.out]; exact Array.size_push _
  have lt : r < W.heap.size := by rw [z1, ← HRr.out]; omega
  unfold getS
  obtain ⟨x, HX⟩ : ∃ x, Hid (s.hits = x) := ⟨_, rfl⟩
  obtain ⟨y, HY⟩ : ∃ y, Hid (s.misses = y) := ⟨_, rfl⟩
  rw [HX.out] at c7 hh
  rw [HY.out] at c8 hm
  rcases fnd_where h k with ⟨hf, hw⟩ | ⟨i, hi, b, v, he, hw, hf⟩
  · rw [hf]
    have HWn : Hid (where1 k es = none) := hw
    have s0 : (W.setCell ⟨g, 8, none⟩ (.int .i64 ((y : Int) + 1))).cell? ⟨r, 0, none⟩ = some (.string ⟨#[]⟩) := (World.cell?_setCell_other _ _ _ _ (fun e => hgr (congrArg Addr.block e))).trans r0
    have s1 : (W.setCell ⟨g, 8, none⟩ (.int .i64 ((y : Int) + 1))).cell? ⟨r, 1, none⟩ = some (.int .i64 0) := (World.cell?_setCell_other _ _ _ _ (fun e => hgr (congrArg Addr.block e))).trans r1
    obtain ⟨y0, y1⟩ := put2 _ r (.string ⟨#[]⟩) (.int .i64 0) _ _ s0 s1
    have sz : (((W.setCell ⟨g, 8, none⟩ (.int .i64 ((y : Int) + 1))).setCell ⟨r, 0, none⟩ (.string ⟨#[]⟩)).setCell ⟨r, 1, none⟩ (.int .i64 0)).heap.size = W.heap.size := by simp [World.setCell]
    have p0 : ((((W.setCell ⟨g, 8, none⟩ (.int .i64 ((y : Int) + 1))).setCell ⟨r, 0, none⟩ (.string ⟨#[]⟩)).setCell ⟨r, 1, none⟩ (.int .i64 0)).alloc (.cells #[.string ⟨#[]⟩, .int .i64 0] 60)).cell? ⟨r, 0, none⟩ = some (.string ⟨#[]⟩) := (World.cell?_alloc_lt _ _ _ (by rw [sz]; exact lt)).trans y0
    have p1 : ((((W.setCell ⟨g, 8, none⟩ (.int .i64 ((y : Int) + 1))).setCell ⟨r, 0, none⟩ (.string ⟨#[]⟩)).setCell ⟨r, 1, none⟩ (.int .i64 0)).alloc (.cells #[.string ⟨#[]⟩, .int .i64 0] 60)).cell? ⟨r, 1, none⟩ = some (.int .i64 0) := (World.cell?_alloc_lt _ _ _ (by rw [sz]; exact lt)).trans y1
    have END : Hid (Rn g mb { s with misses := s.misses + 1 } es w ((((W.setCell ⟨g, 8, none⟩ (.int .i64 ((y : Int) + 1))).setCell ⟨r, 0, none⟩ (.string ⟨#[]⟩)).setCell ⟨r, 1, none⟩ (.int .i64 0)).alloc (.cells #[.string ⟨#[]⟩, .int .i64 0] 60))) := by
      rw [HY.out]
      refine Rn.below ?_ ((Below.refl _ _).alloc (Nat.le_refl _) _)
      have C1 := (Ch.miss h' (y + 1)).keep (A := fun k => k = r) (Kp.setCell _ r 0 (.string ⟨#[]⟩) rfl) (fun j hj e => by have := lts j hj; omega)
      have C2 := C1.keep (A := fun k => k = r) (Kp.setCell _ r 1 (.int .i64 0) rfl) (fun j hj e => by have := lts j hj; omega)
      refine ⟨es, C2, ?_, fun x hx => .inl (List.mem_map.2 ⟨x, hx, rfl⟩)⟩
      refine ⟨K0.os, K0.tape, K0.output, by rw [sz]; exact B0.size, fun k hk hn => ?_⟩
      rw [Below.heap_setCell _ _ _ _ (by show k ≠ r; rw [← HRr.out]; omega), Below.heap_setCell _ _ _ _ (by show k ≠ r; rw [← HRr.out]; omega), Below.heap_setCell _ _ _ _ (by show k ≠ g; exact fun e => hn (.inl e))]
      exact B0.block k hk
    have f00 := f0 0
    have f01 := f0 1
    clear h h' hw hf B0 f0 z1 y0 y1 sz s0 s1 K0 lts
    unfold pt pr zv
    go_enter Try.func50, Try.ntmps50
    go_upto_region 1 with fail
    rw [HW.out, HRr.out]
    go_wp2_with (first | (at_lookup; refine wpList_hasnt _ rfl _ _ rfl mb es rfl HM.out k rfl hk HWn.out ?_) | go_in)
    refine bodyPost_ret (by simp [results, Try.results50, go_sem, p0, p1]; try rfl) rfl ?_
    exact ⟨rfl, END.out⟩
  · rw [hf]
    have HWs : Hid (where1 k es = some b) := hw
    have h1 := Ch.hit h' (x + 1)
    have C : Hid (Calls _ _ _ _ _) := useC h1 hi he
    have hrb : ∀ o, ¬ RP 3 g (es.map (·.1)) ⟨r, o, none⟩ := fun o hp => by
      rcases hp with ⟨e, _⟩ | ⟨e, _⟩
      · exact hgr e.symm
      · have := lts r (.inr (.inr e)); omega
    have END : Hid (∀ w2, Ch g mb { s with hits := x + 1, l := (k, v) :: rm k s.l } ((b, k, v) :: rmE k es) w2 ∧ Fx (RP 3 g (es.map (·.1))) (W.setCell ⟨g, 7, none⟩ (.int .i64 ((x + 1 : Nat) : Int))) w2 → (w2.cell? ⟨b, 1, none⟩ = some (.string v.1) ∧ w2.cell? ⟨b, 2, none⟩ = some (.int .i64 v.2) ∧ w2.cell? ⟨r, 0, none⟩ = some (.string ⟨#[]⟩) ∧ w2.cell? ⟨r, 1, none⟩ = some (.int .i64 0) ∧ w2.frozen? ⟨r, 0, none⟩ = false ∧ w2.frozen? ⟨r, 1, none⟩ = false) ∧ Rn g mb { s with hits := s.hits + 1, l := (k, v) :: rm k s.l } es w ((w2.setCell ⟨r, 0, none⟩ (.string v.1)).setCell ⟨r, 1, none⟩ (.int .i64 v.2))) := by
      rintro w2 ⟨g1, g2⟩
      have k0 : w2.cell? ⟨r, 0, none⟩ = some (.string ⟨#[]⟩) := (g2.cell _ (hrb 0)).trans ((World.cell?_setCell_other _ _ _ _ (fun e => hgr (congrArg Addr.block e))).trans r0)
      have k1 : w2.cell? ⟨r, 1, none⟩ = some (.int .i64 0) := (g2.cell _ (hrb 1)).trans ((World.cell?_setCell_other _ _ _ _ (fun e => hgr (congrArg Addr.block e))).trans r1)
      have fr : ∀ o, w2.frozen? ⟨r, o, none⟩ = false := fun o => (g2.frz _).trans ((World.frozen?_setCell _ _ _ _).trans (f0 o))
      refine ⟨⟨g1.kv1 _ List.mem_cons_self, g1.kv2 _ List.mem_cons_self, k0, k1, fr 0, fr 1⟩, ?_⟩
      have sub : ∀ j, Fr g mb ((b, k, v) :: rmE k es) j → Fr g mb es j := by
        rintro j (e | e | hj)
        · exact .inl e
        · exact .inr (.inl e)
        · refine .inr (.inr ?_)
          obtain ⟨q, hq, e⟩ := List.mem_map.1 hj
          rcases List.mem_cons.1 hq with rfl | hq
          · exact List.mem_map.2 ⟨_, he ▸ List.getElem_mem hi, e⟩
          · exact List.mem_map.2 ⟨q, (mem_rmE.1 hq).1, e⟩
      have C1 := g1.keep (A := fun k => k = r) (Kp.setCell _ r 0 (.string v.1) rfl) (fun j hj e => by have := lts j (sub j hj); omega)
      have C2 := C1.keep (A := fun k => k = r) (Kp.setCell _ r 1 (.int .i64 v.2) rfl) (fun j hj e => by have := lts j (sub j hj); omega)
      rw [HX.out]
      refine ⟨_, C2, ?_, fun q hq => .inl ?_⟩
      · have k2 : Kp (Fr g mb es) w w2 := K0.trans ((kp_g _ _).trans (kp_rp g2))
        refine ⟨k2.os, k2.tape, k2.output, Nat.le_trans k2.size (by simp [World.setCell]), fun j hj hn => ?_⟩
        rw [Below.heap_setCell _ _ _ _ (by show j ≠ r; rw [← HRr.out]; omega), Below.heap_setCell _ _ _ _ (by show j ≠ r; rw [← HRr.out]; omega)]
        exact k2.block j hj hn
      · rcases List.mem_cons.1 hq with rfl | hq
        · exact List.mem_map.2 ⟨_, he ▸ List.getElem_mem hi, rfl⟩
        · exact List.mem_map.2 ⟨_, (mem_rmE.1 hq).1, rfl⟩
    obtain ⟨v1, v2⟩ := v
    clear h h' h1 hw hf he B0 f0 z1 K0 lts hrb r0 r1
    unfold pt lk pr at *
    go_enter Try.func50, Try.ntmps50
    go_upto_region 1 with fail
    rw [HW.out, HRr.out]
    go_wp2_with (first | (at_lookup; refine wpList_has _ rfl _ _ rfl mb es rfl HM.out k rfl hk b HWs.out ?_) | (go_at_call 62; refine C.out.mono ?_; rintro _ w2 ⟨rfl, h1⟩; obtain ⟨⟨k1, k2, k3, k4, k5, k6⟩, r1⟩ := END.out _ h1; obtain ⟨p0, p1⟩ := put2 w2 r (.string v1) (.int .i64 v2) _ _ k3 k4; have H1 : Hid (Rn _ _ _ _ _ _) := r1; clear r1 h1) | go_in)
    refine bodyPost_ret (by simp [results, Try.results50, go_sem, p0, p1]; try rfl) rfl ?_
    exact ⟨rfl, H1.out⟩
end
end Go.Proofs.Ytjkkijeamcihiaa.im
