import Derived.Test.YtjkkijeamcihiaaRg
namespace Go.Proofs.Ytjkkijeamcihiaa.rh
open Go.RowKit Go.PlainAid Go.Maps
open Go.Proofs.Ytjkkijeamcihiaa.kp Go.Proofs.Ytjkkijeamcihiaa.ra Go.Proofs.Ytjkkijeamcihiaa.rb Go.Proofs.Ytjkkijeamcihiaa.rc Go.Proofs.Ytjkkijeamcihiaa.rd Go.Proofs.Ytjkkijeamcihiaa.re Go.Proofs.Ytjkkijeamcihiaa.rf Go.Proofs.Ytjkkijeamcihiaa.rg Go.Proofs.Ytjkkijeamcihiaa.sa
set_option linter.unusedVariables false
set_option linter.unusedSimpArgs false
section
variable {g mb : Nat} {s : St} {es : List (E V)} {w w' : World}
-- a value is written
theorem where_set (es : List (E V)) (i : Nat) (hi : i < es.length) (v : V) (k : K) : where1 k (es.set i ((es[i]).1, (es[i]).2.1, v)) = where1 k es := by
  induction es generalizing i with
  | nil => cases hi
  | cons p l ih =>
    cases i with
    | zero =>
      show where1 k ((p.1, p.2.1, v) :: l) = where1 k (p :: l)
      by_cases e : k = p.2.1
      · subst e
        rw [where_cons_same, show p = (p.1, p.2.1, p.2.2) from rfl, where_cons_same]
      · rw [where_cons_other e, show p = (p.1, p.2.1, p.2.2) from rfl, where_cons_other e]
    | succ i =>
      show where1 k (p :: l.set i _) = where1 k (p :: l)
      have hi : i < l.length := Nat.lt_of_succ_lt_succ hi
      by_cases e : k = p.2.1
      · subst e
        rw [show p = (p.1, p.2.1, p.2.2) from rfl, where_cons_same, where_cons_same]
      · rw [show p = (p.1, p.2.1, p.2.2) from rfl, where_cons_other e, where_cons_other e]
        exact ih i hi
theorem rm_set {k : K} {v x : V} {l : List (K × V)} {i : Nat} (hi : i < l.length) (e : l[i] = (k, x)) : rm k (l.set i (k, v)) = rm k l := by
  induction l generalizing i with
  | nil => cases hi
  | cons p l ih =>
    cases i with
    | zero =>
      have e : p = (k, x) := e
      show rm k ((k, v) :: l) = rm k (p :: l)
      rw [e]
      simp [rm]
    | succ i =>
      have hi : i < l.length := Nat.lt_of_succ_lt_succ hi
      show rm k (p :: l.set i (k, v)) = rm k (p :: l)
      have := ih hi e
      unfold rm at this ⊢
      rw [List.filter_cons, List.filter_cons, this]
theorem Ch.val {i b : Nat} {k : K} {x : V} (h : Ch g mb s es w) (hi : i < es.length) (he : es[i] = (b, k, x)) (v : V) : Ch g mb { s with l := s.l.set i (k, v) } (es.set i (b, k, v)) (w.setCell ⟨b, 1, none⟩ (.string v)) := by
  have hx : (b, k, x) ∈ es := he ▸ List.getElem_mem hi
  have hb : b ∈ es.map (·.1) := List.mem_map.2 ⟨_, hx, rfl⟩
  have hbg : b ≠ g := fun e => h.ring.ne (by show g ∈ _; rw [← e]; exact hb)
  have hbm : b ≠ mb := fun e => h.mes (e ▸ hb)
  have F : Fx (fun a => a = ⟨b, 1, none⟩) w (w.setCell ⟨b, 1, none⟩ (.string v)) := Fx.set _ _ _ rfl
  have cg : ∀ j, (w.setCell ⟨b, 1, none⟩ (.string v)).cell? ⟨g, j, none⟩ = w.cell? ⟨g, j, none⟩ := fun j => F.cell _ (fun e => hbg (congrArg Addr.block e).symm)
  have mp : (es.set i (b, k, v)).map (·.1) = es.map (·.1) := by
    rw [List.map_set]
    apply List.ext_getElem?
    intro j
    rw [List.getElem?_set]
    split
    · rename_i e
      subst e
      rw [List.length_map, if_pos hi, List.getElem?_map, List.getElem?_eq_getElem hi, he]
      rfl
    · rfl
  have mem : ∀ y ∈ es.set i (b, k, v), y = (b, k, v) ∨ (y ∈ es ∧ y.1 ≠ b) := fun y hy => by
    obtain ⟨j, hj, e⟩ := List.getElem_of_mem hy
    rw [List.length_set] at hj
    rw [List.getElem_set] at e
    by_cases hij : i = j
    · rw [if_pos hij] at e; exact .inl e.symm
    · rw [if_neg hij] at e
      refine .inr ⟨e ▸ List.getElem_mem hj, fun e2 => hij ?_⟩
      have a1 := h.ring.nd.idxOf_getElem i (by rw [List.length_map]; exact hi)
      have a2 := h.ring.nd.idxOf_getElem j (by rw [List.length_map]; exact hj)
      rw [List.getElem_map, he] at a1
      rw [List.getElem_map, e, e2] at a2
      exact a1.symm.trans a2
  refine ⟨(cg _).trans h.most, (cg _).trans h.at1, (cg _).trans h.hits, (cg _).trans h.misses, (cg _).trans h.gone, fun j => (F.frz _).trans (h.fz j), ?_, ?_, ?_, ?_, ?_, ?_, ?_, ?_⟩
  · rw [mp]
    refine Ring.fx2 h.ring F ?_
    rintro a (⟨h1, _⟩ | ⟨_, h1⟩) e
    · rw [e] at h1; exact hbg h1
    · rw [e] at h1
      have h1 : 1 = 2 ∨ 1 = 3 := h1
      omega
  · intro y hy
    refine (F.cell _ (fun e => absurd (congrArg Addr.off e) (by show ¬ (0 = 1); decide))).trans ?_
    rcases mem y hy with rfl | ⟨hy, _⟩
    · exact (h.kv0 (b, k, x) hx :)
    · exact h.kv0 y hy
  · intro y hy
    rcases mem y hy with rfl | ⟨hy, hn⟩
    · exact World.cell?_setCell_same _ _ _ (h.kv1 _ hx)
    · exact (F.cell _ (fun e => hn (congrArg Addr.block e))).trans (h.kv1 y hy)
  · intro y hy j
    refine (F.frz _).trans ?_
    rcases mem y hy with rfl | ⟨hy, _⟩
    · exact (h.fv (b, k, x) hx j :)
    · exact h.fv y hy j
  · refine (h.map.keep (F.blk mb (fun a e h1 => hbm (by rw [← e, h1])))).of_perm (List.length_set) (fun k' => ?_)
    have := where_set es i hi v k'
    rw [he] at this
    exact this
  · show s.l.set i (k, v) = _
    rw [List.map_set, h.l]
  · have hl : i < s.l.length := by rw [h.l, List.length_map]; exact hi
    have hk : s.l[i] = (k, x) := by
      have : s.l[i]? = some (k, x) := by rw [h.l, List.getElem?_map, List.getElem?_eq_getElem hi, he]; rfl
      rw [List.getElem?_eq_getElem hl] at this
      exact Option.some.inj this
    refine ⟨?_, by show (s.l.set i (k, v)).length ≤ s.most; rw [List.length_set]; exact h.ok.len, h.ok.most⟩
    show ((s.l.set i (k, v)).map (·.1)).Nodup
    rw [List.map_set]
    have : (s.l.map (·.1)).set i k = s.l.map (·.1) := by
      apply List.ext_getElem?
      intro j
      rw [List.getElem?_set]
      split
      · rename_i e
        subst e
        rw [List.length_map, if_pos hl, List.getElem?_map, List.getElem?_eq_getElem hl, hk]
        rfl
      · rfl
    rw [this]
    exact h.ok.nd
  · intro y hy
    rcases mem y hy with rfl | ⟨hy, _⟩
    · exact (h.big (b, k, x) hx :)
    · exact h.big y hy
theorem dropC (k : K) (h : Ch g mb s es w) (hk : okK k) : Calls Try.prog 23 #[pt ⟨g, 0, none⟩, .string k] w fun e w' => e = .returned (.bool (fnd k s.l).isSome) ∧ Rn g mb (dropS s k) es w w' := by
  have c1 := h.at1
  have HM : Hid (Mq mb es w) := h.map
  unfold dropS
  rcases fnd_where h k with ⟨hf, hw⟩ | ⟨i, hi, b, v, he, hw, hf⟩
  · rw [hf, rm_none hf]
    have HW : Hid (where1 k es = none) := hw
    have END : Hid (Rn g mb s es w w) := Rn.refl h
    clear h hw hf
    unfold pt
    go_enter Try.func23, Try.ntmps23
    go_wp2_with (first | (at_lookup; refine wpList_hasnt _ rfl _ _ rfl mb es rfl HM.out k rfl hk HW.out ?_) | go_in)
    go_ret
    exact ⟨rfl, END.out⟩
  · rw [hf]
    have HW : Hid (where1 k es = some b) := hw
    have C : Hid (Calls _ _ _ _ _) := forgetC h hi he
    have END : Hid (∀ w2, Ch g mb { s with l := rm k s.l } (rmE k es) w2 ∧ Fx (CP g mb (es.map (·.1))) w w2 → Rn g mb { s with l := rm k s.l } es w w2) :=
      fun w2 ⟨g1, g2⟩ => ⟨_, g1, kp_cp (bs := []) g2, fun y hy => .inl (List.mem_map.2 ⟨_, (mem_rmE.1 hy).1, rfl⟩)⟩
    clear h hw hf he
    unfold pt lk at *
    go_enter Try.func23, Try.ntmps23
    go_wp2_with (first | (at_lookup; refine wpList_has _ rfl _ _ rfl mb es rfl HM.out k rfl hk b HW.out ?_) | (go_at_call 40; refine C.out.mono ?_; rintro _ w2 ⟨rfl, h1⟩; have H1 : Hid (Rn _ _ _ _ _ _) := END.out _ h1; clear h1) | go_in)
    go_ret
    exact ⟨rfl, H1.out⟩
theorem clearC (h : Ch g mb s es w) : Calls Try.prog 25 #[pt ⟨g, 0, none⟩] w fun e w' => e = .returned (.tuple #[]) ∧ Rn g mb (clearS s) es w w' := by
  have c1 := h.at1
  obtain ⟨w1, D1, D2, D3⟩ := run_clear w h.map 0
  have DD : ∀ ty, (Builtin.clear_ #[62] ty #[.map (some mb)]).run Try.prog w = .ok (.tuple #[]) w1 := fun ty => D1
  have F1 := fx_turn D3
  have c4 := h.ring.nw 0 (Nat.zero_le _)
  have c5 := h.ring.ol 0 (Nat.zero_le _)
  have gm : ∀ i, w1.cell? ⟨g, i, none⟩ = w.cell? ⟨g, i, none⟩ := fun i => F1.cell _ (fun e => h.mg e.symm)
  have A := aloneC g 2 w1 _ _ ((gm 4).trans c4) ((gm 5).trans c5) ((F1.frz _).trans (h.fz 4)) ((F1.frz _).trans (h.fz 5))
  have END : Hid (Rn g mb (clearS s) es w ((w1.setCell ⟨g, 2 + 2, none⟩ (pt ⟨g, 2, none⟩)).setCell ⟨g, 2 + 3, none⟩ (pt ⟨g, 2, none⟩))) := by
    have F2 : Fx (fun a => a.block = g ∧ (a.off = 4 ∨ a.off = 5)) w1 ((w1.setCell ⟨g, 2 + 2, none⟩ (pt ⟨g, 2, none⟩)).setCell ⟨g, 2 + 3, none⟩ (pt ⟨g, 2, none⟩)) := (Fx.set _ _ _ ⟨rfl, .inl rfl⟩).trans (Fx.set _ _ _ ⟨rfl, .inr rfl⟩)
    have cc : ∀ i, i ≠ 4 → i ≠ 5 → ((w1.setCell ⟨g, 2 + 2, none⟩ (pt ⟨g, 2, none⟩)).setCell ⟨g, 2 + 3, none⟩ (pt ⟨g, 2, none⟩)).cell? ⟨g, i, none⟩ = w.cell? ⟨g, i, none⟩ := fun i h4 h5 => (F2.cell _ (fun e => by rcases e.2 with e | e; exact h4 e; exact h5 e)).trans (gm i)
    refine ⟨[], ⟨(cc 0 (by decide) (by decide)).trans h.most, (cc 1 (by decide) (by decide)).trans h.at1, (cc 6 (by decide) (by decide)).trans h.hits, (cc 7 (by decide) (by decide)).trans h.misses, (cc 8 (by decide) (by decide)).trans h.gone, fun i => (F2.frz _).trans ((F1.frz _).trans (h.fz i)), ?_, fun x hx => (by cases hx), fun x hx => (by cases hx), fun x hx => (by cases hx), D2.keep (F2.blk mb (fun a e h1 => h.mg (e.symm.trans h1.1))), rfl, h.ok.clear, fun x hx => (by cases hx)⟩, ?_, fun x hx => (by cases hx)⟩
    · refine ⟨List.nodup_nil, by simp, ?_, ?_, ?_, ?_⟩
      · intro j hj
        have : j = 0 := by simpa using hj
        subst this
        show ((w1.setCell ⟨g, 4, none⟩ (pt ⟨g, 2, none⟩)).setCell ⟨g, 5, none⟩ (pt ⟨g, 2, none⟩)).cell? ⟨g, 4, none⟩ = some (pt ⟨g, 2, none⟩)
        rw [World.cell?_setCell_other _ _ _ _ (by simp), World.cell?_setCell_same _ _ _ ((gm 4).trans c4)]
      · intro j hj
        have : j = 0 := by simpa using hj
        subst this
        show ((w1.setCell ⟨g, 4, none⟩ (pt ⟨g, 2, none⟩)).setCell ⟨g, 5, none⟩ (pt ⟨g, 2, none⟩)).cell? ⟨g, 5, none⟩ = some (pt ⟨g, 2, none⟩)
        refine World.cell?_setCell_same _ _ _ (u := pt (adr ⟨g, 2, none⟩ (es.map (·.1)) 1)) ?_
        rw [World.cell?_setCell_other _ _ _ _ (by simp)]
        exact (gm 5).trans c5
      · intro j hj
        have : j = 0 := by simpa using hj
        subst this
        exact (F2.frz _).trans ((F1.frz _).trans (h.fz 4))
      · intro j hj
        have : j = 0 := by simpa using hj
        subst this
        exact (F2.frz _).trans ((F1.frz _).trans (h.fz 5))
    · exact (F1.kp (fun a ha => .inr (.inl ha))).trans (F2.kp (fun a ha => .inl ha.1))
  have CC : Hid (Calls _ _ _ _ _) := A
  clear A h F1 D1 D2 D3 c4 c5 gm
  unfold pt at *
  go_enter Try.func25, Try.ntmps25
  go_wp2_with (first | (go_at_call 33; refine CC.out.mono ?_; rintro _ w2 ⟨rfl, h1⟩; rw [h1]; clear h1) | go_in)
  go_end0
  exact ⟨rfl, END.out⟩
end
end Go.Proofs.Ytjkkijeamcihiaa.rh
