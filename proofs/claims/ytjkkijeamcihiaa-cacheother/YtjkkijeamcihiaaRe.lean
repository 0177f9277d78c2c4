import Derived.Test.YtjkkijeamcihiaaRd
namespace Go.Proofs.Ytjkkijeamcihiaa.re
open Go.RowKit Go.PlainAid Go.Maps
open Go.Proofs.Ytjkkijeamcihiaa.kp Go.Proofs.Ytjkkijeamcihiaa.ra Go.Proofs.Ytjkkijeamcihiaa.rb Go.Proofs.Ytjkkijeamcihiaa.rc Go.Proofs.Ytjkkijeamcihiaa.rd Go.Proofs.Ytjkkijeamcihiaa.sa
set_option linter.unusedVariables false
set_option linter.unusedSimpArgs false

abbrev V := ByteArray
abbrev St := S K V
-- the cache in memory
structure Ch (g mb : Nat) (s : St) (es : List (E V)) (w : World) : Prop where
  most : w.cell? ⟨g, 0, none⟩ = some (.int .i64 (s.most : Nat))
  at1 : w.cell? ⟨g, 1, none⟩ = some (.map (some mb))
  hits : w.cell? ⟨g, 6, none⟩ = some (.int .i64 (s.hits : Nat))
  misses : w.cell? ⟨g, 7, none⟩ = some (.int .i64 (s.misses : Nat))
  gone : w.cell? ⟨g, 8, none⟩ = some (.int .i64 (s.gone : Nat))
  fz : ∀ i, w.frozen? ⟨g, i, none⟩ = false
  ring : Ring 2 w ⟨g, 2, none⟩ (es.map (·.1))
  kv0 : ∀ x ∈ es, w.cell? ⟨x.1, 0, none⟩ = some (.string x.2.1)
  kv1 : ∀ x ∈ es, w.cell? ⟨x.1, 1, none⟩ = some (.string x.2.2)
  fv : ∀ x ∈ es, ∀ i, w.frozen? ⟨x.1, i, none⟩ = false
  map : Mq mb es w
  l : s.l = es.map (·.2)
  ok : Ok s
  big : ∀ x ∈ es, okK x.2.1
def Fr (g mb : Nat) (es : List (E V)) (k : Nat) : Prop := k = g ∨ k = mb ∨ k ∈ es.map (·.1)
section
variable {g mb : Nat} {s : St} {es : List (E V)} {w w' : World}
theorem Ch.mg (h : Ch g mb s es w) : mb ≠ g := h.map.ne h.most
theorem Ch.mes (h : Ch g mb s es w) : mb ∉ es.map (·.1) := by
  intro hm
  obtain ⟨x, hx, e⟩ := List.mem_map.1 hm
  exact h.map.ne (h.kv0 x hx) e.symm
theorem Ch.lt (h : Ch g mb s es w) : ∀ k, Fr g mb es k → k < w.heap.size := by
  rintro k (rfl | rfl | hk)
  · exact World.block_lt_of_cell? _ _ h.most
  · exact h.map.lt
  · obtain ⟨x, hx, rfl⟩ := List.mem_map.1 hk
    exact World.block_lt_of_cell? _ _ (h.kv0 x hx)
theorem Ch.keep {A : Nat → Prop} (h : Ch g mb s es w) (k : Kp A w w') (hn : ∀ j, Fr g mb es j → ¬ A j) : Ch g mb s es w' := by
  have bl : ∀ j, Fr g mb es j → w'.heap[j]? = w.heap[j]? := fun j hj => k.block j (h.lt j hj) (hn j hj)
  have ce : ∀ j o, Fr g mb es j → w'.cell? ⟨j, o, none⟩ = w.cell? ⟨j, o, none⟩ := fun j o hj => by
    unfold World.cell?
    rw [show (⟨j, o, none⟩ : Addr).block = j from rfl, bl j hj]
  have fr : ∀ j o, Fr g mb es j → w'.frozen? ⟨j, o, none⟩ = w.frozen? ⟨j, o, none⟩ := fun j o hj => by
    unfold World.frozen?
    rw [show (⟨j, o, none⟩ : Addr).block = j from rfl, bl j hj]
  have hg : Fr g mb es g := .inl rfl
  have hx : ∀ x ∈ es, Fr g mb es x.1 := fun x hx => .inr (.inr (List.mem_map.2 ⟨x, hx, rfl⟩))
  have ha : ∀ j, Fr g mb es (adr ⟨g, 2, none⟩ (es.map (·.1)) j).block := by
    intro j
    cases j with
    | zero => exact .inl rfl
    | succ j =>
      by_cases hj : j < (es.map (·.1)).length
      · rw [adr_in hj]; exact .inr (.inr (List.getElem_mem hj))
      · rw [adr_out (by omega)]; exact .inl rfl
  have R := h.ring
  exact ⟨(ce _ _ hg).trans h.most, (ce _ _ hg).trans h.at1, (ce _ _ hg).trans h.hits, (ce _ _ hg).trans h.misses, (ce _ _ hg).trans h.gone, fun i => (fr _ _ hg).trans (h.fz i),
    ⟨R.nd, R.ne, fun j hj => (ce _ _ (ha j)).trans (R.nw j hj), fun j hj => (ce _ _ (ha j)).trans (R.ol j hj), fun j hj => (fr _ _ (ha j)).trans (R.fn j hj), fun j hj => (fr _ _ (ha j)).trans (R.fo j hj)⟩,
    fun x hx' => (ce _ _ (hx x hx')).trans (h.kv0 x hx'), fun x hx' => (ce _ _ (hx x hx')).trans (h.kv1 x hx'), fun x hx' i => (fr _ _ (hx x hx')).trans (h.fv x hx' i), h.map.keep (bl mb (.inr (.inl rfl))), h.l, h.ok, h.big⟩
theorem Ch.later (h : Ch g mb s es w) (hb : Below w.heap.size w w') : Ch g mb s es w' := h.keep (Kp.of_below (A := fun _ => False) hb) (fun _ _ e => e)
-- the ring turns
theorem Ch.turn {l' : List (K × V)} {fs : List (E V)} {bs : List Nat} (h : Ch g mb s es w) (hbs : ∀ b ∈ bs, b ∈ es.map (·.1)) (F : Fx (RP 2 g bs) w w') (R : Ring 2 w' ⟨g, 2, none⟩ (fs.map (·.1))) (hs : ∀ x ∈ fs, x ∈ es) (hm : Mq mb fs w) (hl : l' = fs.map (·.2)) (hok : Ok { s with l := l' }) : Ch g mb { s with l := l' } fs w' := by
  have bn : ∀ {a : Addr}, a.block ∈ es.map (·.1) → a.block ≠ g := fun {a} hm e => h.ring.ne (by show g ∈ _; rw [← e]; exact hm)
  have cg : ∀ i, i ≠ 4 → i ≠ 5 → w'.cell? ⟨g, i, none⟩ = w.cell? ⟨g, i, none⟩ := fun i h4 h5 => F.cell _ (by
    rintro (⟨_, h1⟩ | ⟨h1, _⟩)
    · rcases h1 with h1 | h1
      · exact h4 h1
      · exact h5 h1
    · exact bn (a := ⟨g, i, none⟩) (hbs _ h1) rfl)
  have cx : ∀ x ∈ es, ∀ i, i < 2 → w'.cell? ⟨x.1, i, none⟩ = w.cell? ⟨x.1, i, none⟩ := fun x hx i hi => F.cell _ (by
    rintro (⟨h1, _⟩ | ⟨_, h1⟩)
    · exact bn (a := ⟨x.1, i, none⟩) (List.mem_map.2 ⟨x, hx, rfl⟩) h1
    · have h1 : i = 2 ∨ i = 3 := h1
      omega)
  have bm : w'.heap[mb]? = w.heap[mb]? := F.blk mb (by
    rintro a e (⟨h1, _⟩ | ⟨h1, _⟩)
    · exact h.mg (e.symm.trans h1)
    · exact h.mes (by rw [← e]; exact hbs _ h1))
  exact ⟨(cg 0 (by decide) (by decide)).trans h.most, (cg 1 (by decide) (by decide)).trans h.at1, (cg 6 (by decide) (by decide)).trans h.hits, (cg 7 (by decide) (by decide)).trans h.misses, (cg 8 (by decide) (by decide)).trans h.gone, fun i => (F.frz _).trans (h.fz i), R,
    fun x hx => (cx x (hs x hx) 0 (by decide)).trans (h.kv0 x (hs x hx)), fun x hx => (cx x (hs x hx) 1 (by decide)).trans (h.kv1 x (hs x hx)), fun x hx i => (F.frz _).trans (h.fv x (hs x hx) i), hm.keep bm, hl, hok, fun x hx => h.big x (hs x hx)⟩
theorem Ch.keysNd (h : Ch g mb s es w) : (keys (es.map (·.2))).Nodup := h.l ▸ h.ok.nd
theorem eraseE (h : Ch g mb s es w) {i : Nat} (hi : i < es.length) {k : K} (e : (es[i]).2.1 = k) : es.eraseIdx i = rmE k es := by
  have nd := h.keysNd
  clear h
  induction es generalizing i with
  | nil => cases hi
  | cons p l ih =>
    obtain ⟨n1, n2⟩ := List.nodup_cons.1 (show (p.2.1 :: keys (l.map (·.2))).Nodup from nd)
    have out : ∀ q ∈ l, q.2.1 ≠ p.2.1 := fun q hq e2 => n1 (List.mem_map.2 ⟨q.2, List.mem_map.2 ⟨q, hq, rfl⟩, e2⟩)
    cases i with
    | zero =>
      have e : p.2.1 = k := e
      show l = rmE k (p :: l)
      unfold rmE
      rw [List.filter_cons, decide_eq_true e]
      symm
      show List.filter _ l = l
      rw [List.filter_eq_self]
      intro q hq
      simpa [e] using out q hq
    | succ i =>
      have hi : i < l.length := Nat.lt_of_succ_lt_succ hi
      have e : (l[i]).2.1 = k := e
      have ne : p.2.1 ≠ k := fun e2 => out _ (List.getElem_mem hi) (by rw [e, e2])
      show p :: l.eraseIdx i = rmE k (p :: l)
      rw [ih hi e n2]
      unfold rmE
      rw [List.filter_cons, decide_eq_false ne]
      rfl
theorem where_front (h : Ch g mb s es w) {b : Nat} {k : K} {v : V} (hx : (b, k, v) ∈ es) (k' : K) : where1 k' ((b, k, v) :: rmE k es) = where1 k' es := by
  by_cases e : k' = k
  · subst e
    rw [where_cons_same]
    have nd := h.keysNd
    clear h
    induction es with
    | nil => cases hx
    | cons p l ih =>
      obtain ⟨n1, n2⟩ := List.nodup_cons.1 (show (p.2.1 :: keys (l.map (·.2))).Nodup from nd)
      rcases List.mem_cons.1 hx with hx | hx
      · rw [← hx, where_cons_same]
      · have ne : k' ≠ p.2.1 := fun e2 => n1 (List.mem_map.2 ⟨(k', v), List.mem_map.2 ⟨_, hx, rfl⟩, e2⟩)
        rw [ih hx n2, show p = (p.1, p.2.1, p.2.2) from rfl, where_cons_other ne]
  · rw [where_cons_other e, where_rm_other _ e]
theorem rmE_lt (h : Ch g mb s es w) {b : Nat} {k : K} {v : V} (hx : (b, k, v) ∈ es) : (rmE k es).length + 1 = es.length := by
  have := rm_lt (k := k) (v := v) h.keysNd ((fnd_some h.keysNd).2 (List.mem_map.2 ⟨_, hx, rfl⟩))
  rw [← rmE_map, List.length_map, List.length_map] at this
  exact this
theorem blocks_erase (h : Ch g mb s es w) {i : Nat} (hi : i < es.length) {k : K} (e : (es[i]).2.1 = k) : (es.map (·.1)).eraseIdx i = (rmE k es).map (·.1) := by
  rw [← eraseE h hi e]
  apply List.ext_getElem?
  intro j
  simp only [List.getElem?_eraseIdx, List.getElem?_map]
  split <;> rfl
theorem fnd_where (h : Ch g mb s es w) (k : K) : fnd k s.l = none ∧ where1 k es = none ∨ ∃ i, ∃ hi : i < es.length, ∃ b v, es[i] = (b, k, v) ∧ where1 k es = some b ∧ fnd k s.l = some v := by
  cases hw : where1 k es with
  | none =>
    left
    refine ⟨?_, rfl⟩
    have := where_map k es
    rw [hw, ← h.l] at this
    cases hf : fnd k s.l with
    | none => rfl
    | some v => rw [hf] at this; cases this
  | some b =>
    right
    obtain ⟨i, hi, e1, e2⟩ := where_some hw
    have e3 : es[i] = (b, k, (es[i]).2.2) := by rw [← e1, ← e2]
    refine ⟨i, hi, b, (es[i]).2.2, e3, rfl, ?_⟩
    rw [h.l, fnd_some h.keysNd]
    exact List.mem_map.2 ⟨es[i], List.getElem_mem hi, by rw [← e2]⟩
theorem useC {i b : Nat} {k : K} {v : V} (h : Ch g mb s es w) (hi : i < es.length) (he : es[i] = (b, k, v)) :
    Calls Try.prog 37 #[pt ⟨g, 0, none⟩, pt (lk b)] w fun e w' => e = .returned (.tuple #[]) ∧ Ch g mb { s with l := (k, v) :: rm k s.l } ((b, k, v) :: rmE k es) w' ∧ Fx (RP 2 g (es.map (·.1))) w w' := by
  have hx : (b, k, v) ∈ es := he ▸ List.getElem_mem hi
  have hi' : i < (es.map (·.1)).length := by rw [List.length_map]; exact hi
  have hb : (es.map (·.1))[i] = b := by rw [List.getElem_map, he]
  have C := leaveR h.ring hi'
  have hbl := blocks_erase h hi (show (es[i]).2.1 = k by rw [he])
  rw [hb, hbl] at C
  have sub : ∀ c ∈ (rmE k es).map (·.1), c ∈ es.map (·.1) := fun c hc => by
    obtain ⟨x, hx, e⟩ := List.mem_map.1 hc
    exact List.mem_map.2 ⟨x, (mem_rmE.1 hx).1, e⟩
  have hbg : b ≠ g := fun e => h.ring.ne (by show g ∈ _; rw [← e]; exact List.mem_map.2 ⟨_, hx, rfl⟩)
  have nb : b ∉ (rmE k es).map (·.1) := by
    rw [← hbl]
    intro hm
    obtain ⟨j, hj, e⟩ := List.mem_eraseIdx_iff_getElem.1 hm
    obtain ⟨hj1, hj2⟩ := e
    have a1 := h.ring.nd.idxOf_getElem i hi'
    have a2 := h.ring.nd.idxOf_getElem j hj
    rw [hb, ← hj2] at a1
    omega
  have c2 := h.ring.nw (i + 1) hi'
  have c3 := h.ring.ol (i + 1) hi'
  have f2 := h.ring.fn (i + 1) hi'
  have f3 := h.ring.fo (i + 1) hi'
  rw [adr_in hi', hb] at c2 c3 f2 f3
  have out : ∀ o, ¬ RP 2 g ((rmE k es).map (·.1)) ⟨b, o, none⟩ := fun o hp => by
    rcases hp with ⟨h1, _⟩ | ⟨h1, _⟩
    · exact hbg h1
    · exact nb h1
  have END : Hid (∀ w1 w2, Ring 2 w1 ⟨g, 2, none⟩ ((rmE k es).map (·.1)) ∧ Fx (RP 2 g ((rmE k es).map (·.1))) w w1 → Ring 2 w2 ⟨g, 2, none⟩ (b :: (rmE k es).map (·.1)) ∧ Fx (RP 2 g (b :: (rmE k es).map (·.1))) w1 w2 → Ch g mb { s with l := (k, v) :: rm k s.l } ((b, k, v) :: rmE k es) w2 ∧ Fx (RP 2 g (es.map (·.1))) w w2) := by
    rintro w1 w2 ⟨r1, x1⟩ ⟨r2, x2⟩
    have s2 : ∀ c ∈ b :: (rmE k es).map (·.1), c ∈ es.map (·.1) := fun c hc => by
      rcases List.mem_cons.1 hc with rfl | hc
      · exact List.mem_map.2 ⟨_, hx, rfl⟩
      · exact sub c hc
    have up : ∀ {bs : List Nat}, (∀ c ∈ bs, c ∈ es.map (·.1)) → ∀ a, RP 2 g bs a → RP 2 g (es.map (·.1)) a := fun hs a hp => by
      rcases hp with h1 | ⟨h1, h2⟩
      · exact .inl h1
      · exact .inr ⟨hs _ h1, h2⟩
    have F := (x1.mono (up sub)).trans (x2.mono (up s2))
    refine ⟨h.turn (fun b hb => hb) F r2 ?_ (h.map.of_perm ?_ (where_front h hx)) ?_ ?_, F⟩
    · intro x hx'
      rcases List.mem_cons.1 hx' with rfl | hx'
      · exact hx
      · exact (mem_rmE.1 hx').1
    · rw [List.length_cons, rmE_lt h hx]
    · rw [List.map_cons, rmE_map, h.l]
    · have := h.ok.get k
      have hf : fnd k s.l = some v := by rw [h.l]; exact (fnd_some h.keysNd).2 (List.mem_map.2 ⟨_, hx, rfl⟩)
      unfold getS at this
      rw [hf] at this
      exact ⟨this.nd, this.len, this.most⟩
  have ENT : Hid (∀ w1, Ring 2 w1 ⟨g, 2, none⟩ ((rmE k es).map (·.1)) ∧ Fx (RP 2 g ((rmE k es).map (·.1))) w w1 → Calls Try.prog 39 #[pt (lk b), pt ⟨g, 2, none⟩] w1 fun e w' => e = .returned (.tuple #[]) ∧ Ring 2 w' ⟨g, 2, none⟩ (b :: (rmE k es).map (·.1)) ∧ Fx (RP 2 g (b :: (rmE k es).map (·.1))) w1 w') := by
    rintro w1 ⟨r1, x1⟩
    exact enterR r1 nb hbg ((x1.cell _ (out 2)).trans c2) ((x1.cell _ (out 3)).trans c3) ((x1.frz _).trans f2) ((x1.frz _).trans f3)
  have CC : Hid (Calls _ _ _ _ _) := C
  clear C h c2 c3 f2 f3 out sub nb hbg hbl hb hi' hx he
  unfold pt lk at *
  go_enter Try.func37, Try.ntmps37
  go_wp2_with (first | (go_at_call 58; refine CC.out.mono ?_; rintro _ w1 ⟨rfl, h1⟩; have H1 : Hid (Ring _ _ _ _ ∧ Fx _ _ _) := h1; clear h1) | (go_at_call 39; refine (ENT.out _ H1.out).mono ?_; rintro _ w2 ⟨rfl, h2⟩; have H2 : Hid (Ring _ _ _ _ ∧ Fx _ _ _) := h2; clear h2) | go_in)
  go_end0
  exact ⟨rfl, END.out _ _ H1.out H2.out⟩
end
end Go.Proofs.Ytjkkijeamcihiaa.re
