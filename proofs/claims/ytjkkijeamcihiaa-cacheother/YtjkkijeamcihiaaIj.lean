import Derived.Test.YtjkkijeamcihiaaIi
import Derived.Maps.OwnSet
namespace Go.Proofs.Ytjkkijeamcihiaa.ij
open Go.RowKit Go.PlainAid Go.Maps
open Go.Proofs.Ytjkkijeamcihiaa.rd (Fx RP rp_adr adr_form)
open Go.Proofs.Ytjkkijeamcihiaa.rf (fx_turn)
open Go.Proofs.Ytjkkijeamcihiaa.kp Go.Proofs.Ytjkkijeamcihiaa.ra Go.Proofs.Ytjkkijeamcihiaa.ib Go.Proofs.Ytjkkijeamcihiaa.ic Go.Proofs.Ytjkkijeamcihiaa.id Go.Proofs.Ytjkkijeamcihiaa.ie Go.Proofs.Ytjkkijeamcihiaa.if Go.Proofs.Ytjkkijeamcihiaa.ig Go.Proofs.Ytjkkijeamcihiaa.im Go.Proofs.Ytjkkijeamcihiaa.ih Go.Proofs.Ytjkkijeamcihiaa.ii Go.Proofs.Ytjkkijeamcihiaa.sa
set_option linter.unusedVariables false
set_option linter.unusedSimpArgs false
section
variable {g mb : Nat} {s : St} {es : List (E V)} {w w' : World}
theorem room_len {s : St} (h : s.l.length ≤ s.most) (h0 : 0 < s.most) : (roomS s).l.length < (roomS s).most ∧ (roomS s).most = s.most := by
  unfold roomS
  split
  · exact ⟨‹_›, rfl⟩
  · refine ⟨?_, rfl⟩
    show s.l.dropLast.length < s.most
    rw [List.length_dropLast]
    omega
theorem room_mem {s : St} {p : K × V} (h : p ∈ (roomS s).l) : p ∈ s.l := by
  unfold roomS at h
  split at h
  · exact h
  · exact (List.dropLast_sublist s.l).subset h
theorem rn_back {W : World} (B : Below w.heap.size w W) (x : Rn g mb s es W w') : Rn g mb s es w w' := by
  obtain ⟨fs, h1, h2, h3⟩ := x
  refine ⟨fs, h1, (Kp.of_below B).trans h2, fun x hx => ?_⟩
  rcases h3 x hx with h | h
  · exact .inl h
  · exact .inr (Nat.le_trans B.size h)
theorem putC (k : K) (v : V) (h : Ch g mb s es w) (hk : okK k) (hg : s.gone < 4611686018427387904) :
    Calls Try.prog 52 #[pt ⟨g, 0, none⟩, .int .i64 k, pr v] w fun e w' => e = .returned (.tuple #[.int .i64 ((outS s k).getD 0), .bool (outS s k).isSome]) ∧ Rn g mb (putS s k v) es w w' := by
  obtain ⟨r, HRr⟩ : ∃ r, Hid (w.heap.size = r) := ⟨_, rfl⟩
  obtain ⟨W, HVv⟩ : ∃ W, Hid (w.alloc (.cells #[.string v.1, .int .i64 v.2] 60) = W) := ⟨_, rfl⟩
  have B0 : Below w.heap.size w W := by rw [← HVv.out]; exact (Below.refl _ _).alloc (Nat.le_refl _) _
  have r0 : W.cell? ⟨r, 0, none⟩ = some (.string v.1) := by rw [← HVv.out, ← HRr.out, World.cell?_alloc_new]; rfl
  have r1 : W.cell? ⟨r, 1, none⟩ = some (.int .i64 v.2) := by rw [← HVv.out, ← HRr.out, World.cell?_alloc_new]; rfl
  have hrF : ¬ Fr g mb es r := fun hf => by have := h.lt r hf; rw [HRr.out] at this; exact Nat.lt_irrefl _ this
  have h := h.later B0
  suffices HH : Calls Try.prog 52 #[pt ⟨g, 0, none⟩, .int .i64 k, pr v] w (fun e w' => e = .returned (.tuple #[.int .i64 ((outS s k).getD 0), .bool (outS s k).isSome]) ∧ Rn g mb (putS s k v) es W w') from HH.mono fun e w' ⟨a, b⟩ => ⟨a, rn_back B0 b⟩
  clear B0
  have c0 := h.most
  have c1 := h.at1
  have HM : Hid (Mq mb es W) := h.map
  have hmm := h.ok.most
  rcases fnd_where h k with ⟨hf, hw⟩ | ⟨i, hi, b, x, he, hw, hf⟩
  · have HW : Hid (where1 k es = none) := hw
    unfold outS putS
    rw [hf]
    dsimp only
    by_cases hz : s.most = 0
    · rw [if_pos hz, if_pos hz]
      have c8 := h.gone
      have f8 := h.fz 9
      obtain ⟨z, HZ⟩ : ∃ z, Hid (s.gone = z) := ⟨_, rfl⟩
      rw [HZ.out] at c8 hg
      have END : Hid (Rn g mb { s with gone := s.gone + 1 } es W (W.setCell ⟨g, 9, none⟩ (.int .i64 ((z : Int) + 1)))) := by
        rw [HZ.out]
        exact ⟨es, Ch.went h (z + 1), kp_g _ _, fun x hx => .inl (List.mem_map.2 ⟨x, hx, rfl⟩)⟩
      rw [hz] at c0
      clear h hw hf hz hmm
      unfold pt pr
      go_enter Try.func52, Try.ntmps52
      go_upto_region 1 with fail
      rw [HVv.out, HRr.out]
      go_wp2_with (first | (at_lookup; refine wpList_hasnt _ rfl _ _ rfl mb es rfl HM.out k rfl hk HW.out ?_) | go_in)
      go_ret2
      exact ⟨rfl, END.out⟩
    · rw [if_neg hz, if_neg hz]
      have h0 : 0 < s.most := by omega
      have C : Hid (Calls _ _ _ _ _) := makeRoomC h h0 hg
      have hrl := room_len h.ok.len h0
      have e1 : (if s.l.length < s.most then none else (s.l.getLast?).map (·.1)) = rout s := rfl
      have e2 : (if s.l.length < s.most then { s with l := (k, v) :: s.l } else { s with gone := s.gone + 1, l := (k, v) :: s.l.dropLast }) = { roomS s with l := (k, v) :: (roomS s).l } := by
        unfold roomS
        split <;> rfl
      rw [e1, e2]
      have STEP : Hid (∀ w1, (∃ fs, Ch g mb (roomS s) fs w1 ∧ Kp (Fr g mb es) W w1 ∧ ∀ x ∈ fs, x ∈ es) → ∃ fs, w1.cell? ⟨g, 1, none⟩ = some (.map (some mb)) ∧ (w1.cell? ⟨r, 0, none⟩ = some (.string v.1) ∧ w1.cell? ⟨r, 1, none⟩ = some (.int .i64 v.2)) ∧ g < w1.heap.size ∧ Hid (Mq mb fs (w1.alloc (.cells #[.int .i64 k, .string v.1, .int .i64 v.2, .pointer none, .pointer none] 96))) ∧ Hid (fs.length < maxLen ∧ where1 k fs = none) ∧
          Hid (∀ w3, Mq mb ((w1.heap.size, k, v) :: fs) w3 → (w1.alloc (.cells #[.int .i64 k, .string v.1, .int .i64 v.2, .pointer none, .pointer none] 96)).mapTurned w3 mb → Calls Try.prog 64 #[pt (lk w1.heap.size), pt ⟨g, 2, none⟩] w3 fun e w4 => e = .returned (.tuple #[]) ∧ Rn g mb { roomS s with l := (k, v) :: (roomS s).l } es W w4)) := by
        rintro w1 ⟨fs, g1, g2, g3⟩
        have B2 : Below w1.heap.size w1 (w1.alloc (.cells #[.int .i64 k, .string v.1, .int .i64 v.2, .pointer none, .pointer none] 96)) := (Below.refl _ _).alloc (Nat.le_refl _) _
        have h2 := g1.later B2
        have out : where1 k fs = none := where_none.2 fun x hx => where_none.1 hw x (g3 x hx)
        have nf : fnd k (roomS s).l = none := fnd_none.2 fun p hp => fnd_none.1 hf p (room_mem hp)
        have hlt : ∀ j, Fr g mb fs j → j < w1.heap.size := g1.lt
        have hcg : w1.heap.size ≠ g := fun e => Nat.lt_irrefl _ (e ▸ hlt g (.inl rfl))
        have hcm : w1.heap.size ≠ mb := fun e => Nat.lt_irrefl _ (e ▸ hlt mb (.inr (.inl rfl)))
        have hce : w1.heap.size ∉ fs.map (·.1) := fun e => Nat.lt_irrefl _ (hlt _ (.inr (.inr e)))
        have cc : ∀ i u, (#[.int .i64 k, .string v.1, .int .i64 v.2, .pointer none, .pointer none] : Array Value)[i]? = some u → (w1.alloc (.cells #[.int .i64 k, .string v.1, .int .i64 v.2, .pointer none, .pointer none] 96)).cell? ⟨w1.heap.size, i, none⟩ = some u := fun i u hu => by
          rw [World.cell?_alloc_new]; exact hu
        have fz : ∀ i, (w1.alloc (.cells #[.int .i64 k, .string v.1, .int .i64 v.2, .pointer none, .pointer none] 96)).frozen? ⟨w1.heap.size, i, none⟩ = false := fun i => World.frozen?_alloc_new _ _ _ _
        have hfl : fs.length ≤ 4096 := by
          have a1 := g1.ok.len
          have a2 := g1.ok.most
          have a3 := congrArg List.length g1.l
          rw [List.length_map] at a3
          omega
        refine ⟨fs, g1.at1, ⟨g2.cell r0 hrF, g2.cell r1 hrF⟩, hlt g (.inl rfl), h2.map, ⟨by unfold maxLen; omega, out⟩, ?_⟩
        intro w3 hm T
        have F1 := fx_turn T
        have R3 : Ring 3 w3 ⟨g, 2, none⟩ (fs.map (·.1)) := Ring.fx h2.ring F1 (fun a ha => ⟨by rw [show a.block = mb from ha]; exact h2.mg, by rw [show a.block = mb from ha]; exact h2.mes⟩)
        have nm : ∀ i, ¬ (⟨w1.heap.size, i, none⟩ : Addr).block = mb := fun i => hcm
        refine (enterR R3 hce hcg ((F1.cell _ (nm 3)).trans (cc 3 _ rfl)) ((F1.cell _ (nm 4)).trans (cc 4 _ rfl)) ((F1.frz _).trans (fz 3)) ((F1.frz _).trans (fz 4))).mono ?_
        rintro e w4 ⟨e1, R4, F4⟩
        refine ⟨e1, (w1.heap.size, k, v) :: fs, Ch.add h2 hk (cc 0 _ rfl) (cc 1 _ rfl) (cc 2 _ rfl) fz hcg hcm hce T hm R4 F4 nf hrl.1, ?_, ?_⟩
        · refine ⟨(F4.os.trans F1.os).trans (B2.os.trans g2.os), (F4.tape.trans F1.tape).trans (B2.tape.trans g2.tape), (F4.output.trans F1.output).trans (B2.output.trans g2.output), Nat.le_trans g2.size (Nat.le_trans B2.size (Nat.le_of_eq (F1.size.symm.trans F4.size.symm))), fun j hj hn => ?_⟩
          have hj1 : j < w1.heap.size := Nat.lt_of_lt_of_le hj g2.size
          rw [F4.blk j ?_, F1.blk j ?_, B2.block j hj1, g2.block j hj hn]
          · rintro a e ha; exact hn (.inr (.inl (e.symm.trans ha)))
          · rintro a e (⟨h1, _⟩ | ⟨h1, _⟩)
            · exact hn (.inl (e.symm.trans h1))
            · rw [e] at h1
              rcases List.mem_cons.1 h1 with h1 | h1
              · omega
              · obtain ⟨x, hx, e2⟩ := List.mem_map.1 h1
                exact hn (.inr (.inr (List.mem_map.2 ⟨x, g3 x hx, e2⟩)))
        · intro x hx
          rcases List.mem_cons.1 hx with rfl | hx
          · exact .inr g2.size
          · exact .inl (List.mem_map.2 ⟨x, g3 x hx, rfl⟩)
      obtain ⟨m, HMm⟩ : ∃ m, Hid (s.most = m) := ⟨_, rfl⟩
      rw [HMm.out] at c0 h0 hmm
      have hm0 : ((m : Int) == 0) = false := by simp; omega
      obtain ⟨r, HR⟩ : ∃ r, Hid (rout s = r) := ⟨_, rfl⟩
      rw [HR.out] at C ⊢
      obtain ⟨t, HTt⟩ : ∃ t, Hid (({ roomS s with l := (k, v) :: (roomS s).l } : St) = t) := ⟨_, rfl⟩
      rw [HTt.out] at STEP ⊢
      clear h hw hf hz hrl e1 e2
      unfold pt lk pr at *
      go_enter Try.func52, Try.ntmps52
      go_upto_region 1 with fail
      rw [HVv.out, HRr.out]
      go_wp2_with (first | (at_lookup; refine wpList_hasnt _ rfl _ _ rfl mb es rfl HM.out k rfl hk HW.out ?_) | (go_at_call 63; refine C.out.mono ?_; rintro _ w1 ⟨rfl, h1⟩; obtain ⟨fs, k1, ⟨k8, k9⟩, k2, K3, K4, K5⟩ := STEP.out _ h1; clear h1) | (at_mapUpdate; refine wpList_set _ rfl _ _ _ rfl mb fs rfl K3.out K4.out.1 k w1.heap.size v rfl rfl hk K4.out.2 ?_; intro w3 h3 t3; have CE : Hid (Calls _ _ _ _ _) := K5.out w3 h3 t3; clear t3) | (go_at_call 64; refine CE.out.mono ?_; rintro _ w4 ⟨rfl, h4⟩; have H4 : Hid (Rn _ _ _ _ _ _) := h4; clear h4) | go_in)
      go_ret2
      exact ⟨rfl, H4.out⟩
  · have HW : Hid (where1 k es = some b) := hw
    unfold outS putS
    rw [hf]
    dsimp only
    have hl : i < s.l.length := by rw [h.l, List.length_map]; exact hi
    have hk1 : s.l[i] = (k, x) := by
      have : s.l[i]? = some (k, x) := by rw [h.l, List.getElem?_map, List.getElem?_eq_getElem hi, he]; rfl
      rw [List.getElem?_eq_getElem hl] at this
      exact Option.some.inj this
    have h1 := Ch.val h hi he v
    have hi2 : i < (es.set i (b, k, v)).length := by rw [List.length_set]; exact hi
    have C := useC h1 hi2 (by rw [List.getElem_set_self])
    have cv := h.kv1 es[i] (List.getElem_mem hi)
    have cv2 := h.kv2 es[i] (List.getElem_mem hi)
    have fv := h.fv es[i] (List.getElem_mem hi) 1
    have fv2 := h.fv es[i] (List.getElem_mem hi) 2
    rw [he] at cv cv2 fv fv2
    have bx : (b, k, x) ∈ es := he ▸ List.getElem_mem hi
    have END : Hid (∀ w2 o, Ch g mb { s with l := (k, v) :: rm k (s.l.set i (k, v)) } ((b, k, v) :: rmE k (es.set i (b, k, v))) w2 ∧ Fx (RP 3 g ((es.set i (b, k, v)).map (·.1))) ((W.setCell ⟨b, 1, none⟩ (.string v.1)).setCell ⟨b, 2, none⟩ (.int .i64 v.2)) w2 → Rn g mb { s with l := (k, v) :: rm k s.l } es W (w2.alloc o)) := by
      rintro w2 o ⟨g1, g2⟩
      rw [rm_set hl hk1] at g1
      have sub : ∀ y ∈ (es.set i (b, k, v)).map (·.1), y ∈ es.map (·.1) := fun y hy => by
        obtain ⟨z, hz, e⟩ := List.mem_map.1 hy
        rcases List.mem_or_eq_of_mem_set hz with hz | hz
        · exact List.mem_map.2 ⟨z, hz, e⟩
        · rw [← e, hz]; exact List.mem_map.2 ⟨_, bx, rfl⟩
      refine Rn.below ⟨_, g1, ((Kp.setCell _ _ _ _ (.inr (.inr (List.mem_map.2 ⟨_, bx, rfl⟩)))).trans (Kp.setCell _ _ _ _ (.inr (.inr (List.mem_map.2 ⟨_, bx, rfl⟩))))).trans (kp_rp (g2.mono (fun a ha => ?_))), fun y hy => .inl ?_⟩ ((Below.refl _ _).alloc (Nat.le_refl _) o)
      · rcases ha with ha | ⟨h1, h2⟩
        · exact .inl ha
        · exact .inr ⟨sub _ h1, h2⟩
      · rcases List.mem_cons.1 hy with rfl | hy
        · exact List.mem_map.2 ⟨_, bx, rfl⟩
        · exact sub _ (List.mem_map.2 ⟨_, (mem_rmE.1 hy).1, rfl⟩)
    have CC : Hid (Calls _ _ _ _ _) := C
    clear h h1 hw hf he hi2 C hl hk1 bx
    unfold pt lk pr at *
    go_enter Try.func52, Try.ntmps52
    go_upto_region 1 with fail
    rw [HVv.out, HRr.out]
    go_wp2_with (first | (at_lookup; refine wpList_has _ rfl _ _ rfl mb es rfl HM.out k rfl hk b HW.out ?_) | (go_at_call 62; refine CC.out.mono ?_; rintro _ w2 ⟨rfl, h1⟩; have H1 : Hid (∀ o, Rn _ _ _ _ _ _) := fun o => END.out _ o h1; clear h1) | go_in)
    go_ret2
    exact ⟨rfl, H1.out _⟩
end
end Go.Proofs.Ytjkkijeamcihiaa.ij
