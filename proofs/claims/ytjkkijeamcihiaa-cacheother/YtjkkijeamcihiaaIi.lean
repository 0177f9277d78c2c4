import Derived.Test.YtjkkijeamcihiaaIh
namespace Go.Proofs.Ytjkkijeamcihiaa.ii
open Go.RowKit Go.PlainAid Go.Maps
open Go.Proofs.Ytjkkijeamcihiaa.rd (Fx RP rp_adr adr_form)
open Go.Proofs.Ytjkkijeamcihiaa.rf (fx_turn)
open Go.Proofs.Ytjkkijeamcihiaa.kp Go.Proofs.Ytjkkijeamcihiaa.ra Go.Proofs.Ytjkkijeamcihiaa.ib Go.Proofs.Ytjkkijeamcihiaa.ic Go.Proofs.Ytjkkijeamcihiaa.id Go.Proofs.Ytjkkijeamcihiaa.ie Go.Proofs.Ytjkkijeamcihiaa.if Go.Proofs.Ytjkkijeamcihiaa.ig Go.Proofs.Ytjkkijeamcihiaa.im Go.Proofs.Ytjkkijeamcihiaa.ih Go.Proofs.Ytjkkijeamcihiaa.sa
set_option linter.unusedVariables false
set_option linter.unusedSimpArgs false
section
variable {g mb : Nat} {s : St} {es : List (E V)} {w w' : World}
def roomS (s : St) : St := if s.l.length < s.most then s else { s with gone := s.gone + 1, l := s.l.dropLast }
def rout (s : St) : Option K := if s.l.length < s.most then none else (s.l.getLast?).map (·.1)
theorem makeRoomC (h : Ch g mb s es w) (h0 : 0 < s.most) (hg : s.gone < 4611686018427387904) :
    Calls Try.prog 63 #[pt ⟨g, 0, none⟩] w fun e w' => e = .returned (.tuple #[.int .i64 ((rout s).getD 0), .bool (rout s).isSome]) ∧ ∃ fs, Ch g mb (roomS s) fs w' ∧ Kp (Fr g mb es) w w' ∧ ∀ x ∈ fs, x ∈ es := by
  have c0 := h.most
  have c1 := h.at1
  have hl : s.l.length = es.length := by rw [h.l, List.length_map]
  have L : ∀ ty, (Builtin.len_ #[93] ty #[.map (some mb)]).run Try.prog w.drew = .ok (.int .i64 (es.length : Nat)) w.drew := fun ty => run_len (w := w.drew) (es := es) (h.map.keep rfl) ty
  have hd : Ch g mb s es w.drew := h.later ((Below.refl _ w).drew)
  have hm := h.ok.most
  have hn := h.ok.len
  have K0 : Kp (Fr g mb es) w w.drew := Kp.of_below ((Below.refl _ w).drew)
  obtain ⟨m, HM⟩ : ∃ m, Hid (s.most = m) := ⟨_, rfl⟩
  obtain ⟨n, HN⟩ : ∃ n, Hid (es.length = n) := ⟨_, rfl⟩
  unfold roomS rout
  rw [HM.out] at c0 h0 hm hn ⊢
  rw [hl, HN.out] at hn ⊢
  rw [HN.out] at L
  by_cases hlt : n < m
  · rw [if_pos hlt, if_pos hlt]
    have hlt' : (n : Int) < m := by omega
    have END : Hid (∀ o, ∃ fs, Ch g mb s fs (w.drew.alloc o) ∧ Kp (Fr g mb es) w (w.drew.alloc o) ∧ ∀ x ∈ fs, x ∈ es) := fun o => ⟨es, hd.later ((Below.refl _ _).alloc (Nat.le_refl _) o), K0.trans (Kp.of_below ((Below.refl _ _).alloc (Nat.le_refl _) o)), fun x hx => hx⟩
    clear h hd K0 hl
    unfold pt
    go_enter Try.func63, Try.ntmps63
    go_wp2_with fail
    go_region
    go_wp2
    go_ret2
    exact ⟨rfl, END.out _⟩
  · rw [if_neg hlt, if_neg hlt]
    have hi : n - 1 < es.length := by rw [HN.out]; omega
    obtain ⟨b, k, v, he⟩ : ∃ b k v, es[n - 1] = (b, k, v) := ⟨_, _, _, rfl⟩
    have hx : (b, k, v) ∈ es := he ▸ List.getElem_mem hi
    have hgl : s.l.getLast? = some (k, v) := by
      have h9 : es[es.length - 1]? = some (b, k, v) := by rw [HN.out, List.getElem?_eq_getElem hi, he]
      rw [h.l, List.getLast?_eq_getElem?, List.length_map, List.getElem?_map, h9]
      rfl
    have hdl : s.l.dropLast = rm k s.l := drop_rm h.ok.nd hgl
    rw [hdl, hgl]
    have C : Hid (Calls _ _ _ _ _) := forgetC hd hi he
    have cn : w.drew.cell? ⟨g, 5, none⟩ = some (.pointer (some ⟨b, 0, none⟩)) := by
      have := h.ring.nw 0 (Nat.zero_le _)
      rw [show pv (es.map (·.1)).length 0 = (es.map (·.1)).length from rfl] at this
      have e1 : adr ⟨g, 2, none⟩ (es.map (·.1)) (es.map (·.1)).length = ⟨b, 0, none⟩ := by
        have h9 : n - 1 < (es.map (·.1)).length := by rw [List.length_map]; exact hi
        have := adr_in (e := ⟨g, 2, none⟩) h9
        rw [List.getElem_map, he] at this
        rw [← this]
        congr 1
        rw [List.length_map, HN.out]; omega
      rw [e1] at this
      exact this
    obtain ⟨z, HZ⟩ : ∃ z, Hid (s.gone = z) := ⟨_, rfl⟩
    rw [HZ.out] at hg
    have END : Hid (∀ w2, Ch g mb { s with l := rm k s.l } (rmE k es) w2 ∧ Fx (CP g mb (es.map (·.1))) w.drew w2 → (w2.cell? ⟨g, 9, none⟩ = some (.int .i64 (z : Nat)) ∧ w2.frozen? ⟨g, 9, none⟩ = false ∧ (w2.setCell ⟨g, 9, none⟩ (.int .i64 ((z : Int) + 1))).cell? ⟨b, 0, none⟩ = some (.int .i64 k)) ∧ ∃ fs, Ch g mb { s with gone := s.gone + 1, l := rm k s.l } fs (w2.setCell ⟨g, 9, none⟩ (.int .i64 ((z : Int) + 1))) ∧ Kp (Fr g mb es) w (w2.setCell ⟨g, 9, none⟩ (.int .i64 ((z : Int) + 1))) ∧ ∀ x ∈ fs, x ∈ es) := by
      rintro w2 ⟨g1, g2⟩
      have hbg : b ≠ g := fun e => h.ring.ne (by show g ∈ _; rw [← e]; exact List.mem_map.2 ⟨_, hx, rfl⟩)
      have hbm : b ≠ mb := fun e => h.mes (e ▸ List.mem_map.2 ⟨_, hx, rfl⟩)
      refine ⟨⟨by rw [← HZ.out]; exact g1.gone, g1.fz 9, ?_⟩, rmE k es, ?_, (K0.trans (kp_cp (bs := []) g2)).trans (kp_g _ _), fun x hx => (mem_rmE.1 hx).1⟩
      · rw [World.cell?_setCell_other _ _ _ _ (fun e => hbg (congrArg Addr.block e).symm), g2.cell]
        · exact h.kv0 _ hx
        · rintro ((⟨h1, _⟩ | ⟨_, h1⟩) | h1)
          · exact hbg h1
          · have h1 : 0 = 3 ∨ 0 = 4 := h1
            omega
          · exact hbm h1
      · have := Ch.went g1 (z + 1)
        rw [HZ.out]
        exact this
    have hlt' : decide ((n : Int) < m) = false := by simp; omega
    clear h hd K0 hl hx hgl hdl hi he
    unfold pt lk at *
    go_enter Try.func63, Try.ntmps63
    go_wp2_with fail
    go_region
    go_wp2_with (first | (go_at_call 65; refine C.out.mono ?_; rintro _ w2 ⟨rfl, h1⟩; obtain ⟨⟨k1, k2, k3⟩, r1⟩ := END.out _ h1; have H1 : Hid (∃ fs, Ch _ _ _ fs _ ∧ Kp _ _ _ ∧ ∀ x ∈ fs, x ∈ es) := r1; clear r1 h1) | go_in)
    go_ret2
    exact ⟨rfl, by rw [← HM.out]; exact H1.out⟩
theorem Ch.add {c : Nat} {k : K} {v : V} {w2 w3 w4 : World} (h : Ch g mb s es w2) (hk : okK k) (hc0 : w2.cell? ⟨c, 0, none⟩ = some (.int .i64 k)) (hc1 : w2.cell? ⟨c, 1, none⟩ = some (.string v.1)) (hc2 : w2.cell? ⟨c, 2, none⟩ = some (.int .i64 v.2)) (fc : ∀ i, w2.frozen? ⟨c, i, none⟩ = false) (hcg : c ≠ g) (hcm : c ≠ mb) (hce : c ∉ es.map (·.1))
    (T : w2.mapTurned w3 mb) (hm : Mq mb ((c, k, v) :: es) w3) (R : Ring 3 w4 ⟨g, 2, none⟩ (c :: es.map (·.1))) (F : Fx (RP 3 g (c :: es.map (·.1))) w3 w4) (hno : fnd k s.l = none) (hlt : s.l.length < s.most) :
    Ch g mb { s with l := (k, v) :: s.l } ((c, k, v) :: es) w4 := by
  have F1 := fx_turn T
  have cg : ∀ i, i ≠ 5 → i ≠ 6 → w4.cell? ⟨g, i, none⟩ = w2.cell? ⟨g, i, none⟩ := fun i h4 h5 => (F.cell _ (by
    rintro (⟨_, h1⟩ | ⟨h1, _⟩)
    · rcases h1 with h1 | h1
      · exact h4 h1
      · exact h5 h1
    · rcases List.mem_cons.1 h1 with h1 | h1
      · exact hcg h1.symm
      · exact h.ring.ne h1)).trans (F1.cell _ (fun e => h.mg e.symm))
  have cx : ∀ b i, b ≠ g → b ≠ mb → i < 3 → w4.cell? ⟨b, i, none⟩ = w2.cell? ⟨b, i, none⟩ := fun b i hg hm hi => (F.cell _ (by
    rintro (⟨h1, _⟩ | ⟨_, h1⟩)
    · exact hg h1
    · have h1 : i = 3 ∨ i = 4 := h1
      omega)).trans (F1.cell _ hm)
  have eg : ∀ x ∈ es, x.1 ≠ g := fun x hx e => h.ring.ne (by show g ∈ _; rw [← e]; exact List.mem_map.2 ⟨x, hx, rfl⟩)
  have em : ∀ x ∈ es, x.1 ≠ mb := fun x hx e => h.mes (e ▸ List.mem_map.2 ⟨x, hx, rfl⟩)
  refine ⟨(cg 0 (by decide) (by decide)).trans h.most, (cg 1 (by decide) (by decide)).trans h.at1, (cg 7 (by decide) (by decide)).trans h.hits, (cg 8 (by decide) (by decide)).trans h.misses, (cg 9 (by decide) (by decide)).trans h.gone, fun i => (F.frz _).trans ((F1.frz _).trans (h.fz i)), R, ?_, ?_, ?_, ?_, ?_, ?_, ?_, ?_⟩
  · intro x hx
    rcases List.mem_cons.1 hx with rfl | hx
    · exact (cx _ _ hcg hcm (by decide)).trans hc0
    · exact (cx _ _ (eg x hx) (em x hx) (by decide)).trans (h.kv0 x hx)
  · intro x hx
    rcases List.mem_cons.1 hx with rfl | hx
    · exact (cx _ _ hcg hcm (by decide)).trans hc1
    · exact (cx _ _ (eg x hx) (em x hx) (by decide)).trans (h.kv1 x hx)
  · intro x hx
    rcases List.mem_cons.1 hx with rfl | hx
    · exact (cx _ _ hcg hcm (by decide)).trans hc2
    · exact (cx _ _ (eg x hx) (em x hx) (by decide)).trans (h.kv2 x hx)
  · intro x hx i
    refine (F.frz _).trans ((F1.frz _).trans ?_)
    rcases List.mem_cons.1 hx with rfl | hx
    · exact fc i
    · exact h.fv x hx i
  · refine hm.keep (F.blk mb ?_)
    rintro a e (⟨h1, _⟩ | ⟨h1, _⟩)
    · exact h.mg (e.symm.trans h1)
    · rw [e] at h1
      rcases List.mem_cons.1 h1 with h1 | h1
      · exact hcm h1.symm
      · exact h.mes h1
  · show (k, v) :: s.l = _
    rw [h.l]; rfl
  · refine ⟨?_, hlt, h.ok.most⟩
    refine List.nodup_cons.2 ⟨fun hm => ?_, h.ok.nd⟩
    obtain ⟨p, hp, e⟩ := List.mem_map.1 hm
    exact fnd_none.1 hno p hp e
  · intro x hx
    rcases List.mem_cons.1 hx with rfl | hx
    · exact hk
    · exact h.big x hx
end
end Go.Proofs.Ytjkkijeamcihiaa.ii
