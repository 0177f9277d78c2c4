import Derived.Test.YtjkkijeamcihiaaRe
namespace Go.Proofs.Ytjkkijeamcihiaa.rf
open Go.RowKit Go.PlainAid Go.Maps
open Go.Proofs.Ytjkkijeamcihiaa.kp Go.Proofs.Ytjkkijeamcihiaa.ra Go.Proofs.Ytjkkijeamcihiaa.rb Go.Proofs.Ytjkkijeamcihiaa.rc Go.Proofs.Ytjkkijeamcihiaa.rd Go.Proofs.Ytjkkijeamcihiaa.re Go.Proofs.Ytjkkijeamcihiaa.sa
set_option linter.unusedVariables false
set_option linter.unusedSimpArgs false
section
variable {g mb : Nat} {s : St} {es : List (E V)} {w w' : World}
theorem fx_turn {b : Nat} (h : w.mapTurned w' b) : Fx (fun a => a.block = b) w w' := by
  have fz := h.frozen
  obtain ⟨xs, clock, xs', clock', hb, rfl⟩ := h
  refine ⟨rfl, rfl, rfl, by simp [ChangeMaps.setBlock], fun a ha => ?_, fz, fun k hk => ChangeMaps.heap_setBlock_other hb _ (fun e => hk ⟨b, 0, none⟩ e.symm rfl)⟩
  unfold World.cell?
  rw [ChangeMaps.heap_setBlock_other hb _ ha]
theorem Ring.fx {P : Addr → Prop} {bs : List Nat} (h : Ring 2 w ⟨g, 2, none⟩ bs) (F : Fx P w w') (hn : ∀ a, P a → a.block ≠ g ∧ a.block ∉ bs) : Ring 2 w' ⟨g, 2, none⟩ bs := by
  have ha : ∀ j x, ¬ P (sh (adr ⟨g, 2, none⟩ bs j) x) := by
    intro j x hp
    have := hn _ hp
    cases j with
    | zero => exact this.1 rfl
    | succ j =>
      by_cases hj : j < bs.length
      · rw [adr_in hj] at this; exact this.2 (List.getElem_mem hj)
      · rw [adr_out (by omega)] at this; exact this.1 rfl
  exact ⟨h.nd, h.ne, fun j hj => (F.cell _ (ha _ _)).trans (h.nw j hj), fun j hj => (F.cell _ (ha _ _)).trans (h.ol j hj), fun j hj => (F.frz _).trans (h.fn j hj), fun j hj => (F.frz _).trans (h.fo j hj)⟩
def CP (g mb : Nat) (bs : List Nat) (a : Addr) : Prop := RP 2 g bs a ∨ a.block = mb
theorem Ch.turn2 {l' : List (K × V)} {fs : List (E V)} (h : Ch g mb s es w) (F : Fx (CP g mb (es.map (·.1))) w w') (R : Ring 2 w' ⟨g, 2, none⟩ (fs.map (·.1))) (hs : ∀ x ∈ fs, x ∈ es) (hm : Mq mb fs w') (hl : l' = fs.map (·.2)) (hok : Ok { s with l := l' }) : Ch g mb { s with l := l' } fs w' := by
  have cg : ∀ i, i ≠ 4 → i ≠ 5 → w'.cell? ⟨g, i, none⟩ = w.cell? ⟨g, i, none⟩ := fun i h4 h5 => F.cell _ (by
    rintro ((⟨_, h1⟩ | ⟨h1, _⟩) | h1)
    · rcases h1 with h1 | h1
      · exact h4 h1
      · exact h5 h1
    · exact h.ring.ne h1
    · exact h.mg h1.symm)
  have cx : ∀ x ∈ es, ∀ i, i < 2 → w'.cell? ⟨x.1, i, none⟩ = w.cell? ⟨x.1, i, none⟩ := fun x hx i hi => F.cell _ (by
    have hm : x.1 ∈ es.map (·.1) := List.mem_map.2 ⟨x, hx, rfl⟩
    rintro ((⟨h1, _⟩ | ⟨_, h1⟩) | h1)
    · have h1 : x.1 = g := h1
      exact h.ring.ne (by show g ∈ _; rw [← h1]; exact hm)
    · have h1 : i = 2 ∨ i = 3 := h1
      omega
    · have h1 : x.1 = mb := h1
      exact h.mes (h1 ▸ hm))
  exact ⟨(cg 0 (by decide) (by decide)).trans h.most, (cg 1 (by decide) (by decide)).trans h.at1, (cg 6 (by decide) (by decide)).trans h.hits, (cg 7 (by decide) (by decide)).trans h.misses, (cg 8 (by decide) (by decide)).trans h.gone, fun i => (F.frz _).trans (h.fz i), R,
    fun x hx => (cx x (hs x hx) 0 (by decide)).trans (h.kv0 x (hs x hx)), fun x hx => (cx x (hs x hx) 1 (by decide)).trans (h.kv1 x (hs x hx)), fun x hx i => (F.frz _).trans (h.fv x (hs x hx) i), hm, hl, hok, fun x hx => h.big x (hs x hx)⟩
theorem forgetC {i b : Nat} {k : K} {v : V} (h : Ch g mb s es w) (hi : i < es.length) (he : es[i] = (b, k, v)) :
    Calls Try.prog 40 #[pt ⟨g, 0, none⟩, pt (lk b)] w fun e w' => e = .returned (.tuple #[]) ∧ Ch g mb { s with l := rm k s.l } (rmE k es) w' ∧ Fx (CP g mb (es.map (·.1))) w w' := by
  have hx : (b, k, v) ∈ es := he ▸ List.getElem_mem hi
  have hk : okK k := h.big _ hx
  have hi' : i < (es.map (·.1)).length := by rw [List.length_map]; exact hi
  have hb : (es.map (·.1))[i] = b := by rw [List.getElem_map, he]
  have hbl := blocks_erase h hi (show (es[i]).2.1 = k by rw [he])
  have hw : where1 k es = some b := by
    have := where_front h hx k
    rw [where_cons_same] at this
    exact this.symm
  obtain ⟨w1, D1, D2, D3⟩ := run_delete (w := w.drew) (b := mb) (es := es) (k := k) (c := b) (h.map.keep rfl) hk hw (rmE_lt h hx) 0
  have DD : ∀ ty, (Builtin.delete_ #[62, 9] ty #[.map (some mb), .string k]).run Try.prog w.drew = .ok (.tuple #[]) w1 := fun ty => D1
  have F1 : Fx (fun a => a.block = mb) w w1 := (Fx.refl _ w).drew.trans (fx_turn D3)
  have sub : ∀ c ∈ (rmE k es).map (·.1), c ∈ es.map (·.1) := fun c hc => by
    obtain ⟨x, hx, e⟩ := List.mem_map.1 hc
    exact List.mem_map.2 ⟨x, (mem_rmE.1 hx).1, e⟩
  have R1 : Ring 2 w1 ⟨g, 2, none⟩ (es.map (·.1)) := Ring.fx h.ring F1 (fun a ha => ⟨by rw [show a.block = mb from ha]; exact h.mg, by rw [show a.block = mb from ha]; exact h.mes⟩)
  have C := leaveR R1 hi'
  rw [hb, hbl] at C
  have END : Hid (∀ w2, Ring 2 w2 ⟨g, 2, none⟩ ((rmE k es).map (·.1)) ∧ Fx (RP 2 g ((rmE k es).map (·.1))) w1 w2 → Ch g mb { s with l := rm k s.l } (rmE k es) w2 ∧ Fx (CP g mb (es.map (·.1))) w w2) := by
    rintro w2 ⟨r2, x2⟩
    have F : Fx (CP g mb (es.map (·.1))) w w2 := (F1.mono (fun a ha => .inr ha)).trans (x2.mono (fun a ha => by
      rcases ha with h1 | ⟨h1, h2⟩
      · exact .inl (.inl h1)
      · exact .inl (.inr ⟨sub _ h1, h2⟩)))
    refine ⟨Ch.turn2 h F r2 (fun x hx => (mem_rmE.1 hx).1) (D2.keep (x2.blk mb ?_)) (by rw [rmE_map, h.l]) ?_, F⟩
    · rintro a e (⟨h1, _⟩ | ⟨h1, _⟩)
      · exact h.mg (e.symm.trans h1)
      · exact h.mes (by rw [← e]; exact sub _ h1)
    · exact h.ok.drop k
  have CC : Hid (Calls _ _ _ _ _) := C
  have c1 := h.at1
  have c0 := h.kv0 _ hx
  clear C h R1 F1 D1 D2 D3 sub hw hbl hb hi' hx he hk
  unfold pt lk at *
  go_enter Try.func40, Try.ntmps40
  go_wp2_with fail
  go_region
  clear DD c1 c0
  go_wp2_with (first | (go_at_call 58; refine CC.out.mono ?_; rintro _ w2 ⟨rfl, h1⟩; have H1 : Hid (Ring _ _ _ _ ∧ Fx _ _ _) := h1; clear h1) | go_in)
  go_end0
  exact ⟨rfl, END.out _ H1.out⟩
end
end Go.Proofs.Ytjkkijeamcihiaa.rf
