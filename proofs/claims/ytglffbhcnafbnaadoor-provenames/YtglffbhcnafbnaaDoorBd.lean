import Derived.Test.YtglffbhcnafbnaaDoorBc
namespace Go.Proofs.YtglffbhcnafbnaaDoor.bd
open Go.RowKit Go.PlainAid
open Go.Proofs.YtglffbhcnafbnaaDoor.pl Go.Proofs.YtglffbhcnafbnaaDoor.pi Go.Proofs.YtglffbhcnafbnaaDoor.rf Go.Proofs.YtglffbhcnafbnaaDoor.pj Go.Proofs.YtglffbhcnafbnaaDoor.ca Go.Proofs.YtglffbhcnafbnaaDoor.cb Go.Proofs.YtglffbhcnafbnaaDoor.cp Go.Proofs.YtglffbhcnafbnaaDoor.cs Go.Proofs.YtglffbhcnafbnaaDoor.ct Go.Proofs.YtglffbhcnafbnaaDoor.xc Go.Proofs.YtglffbhcnafbnaaDoor.xf Go.Proofs.YtglffbhcnafbnaaDoor.ka Go.Proofs.YtglffbhcnafbnaaDoor.kb Go.Proofs.YtglffbhcnafbnaaDoor.kc Go.Proofs.YtglffbhcnafbnaaDoor.ga Go.Proofs.YtglffbhcnafbnaaDoor.aa Go.Proofs.YtglffbhcnafbnaaDoor.ab Go.Proofs.YtglffbhcnafbnaaDoor.tb Go.Proofs.YtglffbhcnafbnaaDoor.ac Go.Proofs.YtglffbhcnafbnaaDoor.ba Go.Proofs.YtglffbhcnafbnaaDoor.bf Go.Proofs.YtglffbhcnafbnaaDoor.bc
set_option linter.unusedVariables false

theorem three_box (w : World) (x y z : Value) (t : TypeId) : (w.alloc (.cells #[x, y, z] t)).cell? ⟨w.heap.size, 0, none⟩ = some x ∧ (w.alloc (.cells #[x, y, z] t)).cell? ⟨w.heap.size, 1, none⟩ = some y ∧ (w.alloc (.cells #[x, y, z] t)).cell? ⟨w.heap.size, 2, none⟩ = some z := by
  refine ⟨?_, ?_, ?_⟩ <;> (rw [World.cell?_alloc_at _ _ _ _ rfl]; rfl)
theorem cov_in (p hi : Nat) : ∀ a ∈ cov p hi, p ≤ a.2 * 2 ^ a.1 ∧ (a.2 + 1) * 2 ^ a.1 ≤ hi ∧ a.1 ≤ 62 := by
  refine cov_fold (p := p) (hi := hi) (fun p hi => ∀ a ∈ cov p hi, p ≤ a.2 * 2 ^ a.1 ∧ (a.2 + 1) * 2 ^ a.1 ≤ hi ∧ a.1 ≤ 62) ?_ ?_
  · intro p h a ha
    rw [cov_end h] at ha
    cases ha
  · intro p k hlt hl ih a ha
    rw [cov_at hlt hl] at ha
    rcases List.mem_cons.1 ha with rfl | ha
    · have e : p / 2 ^ k * 2 ^ k = p := Nat.div_mul_cancel hl.2.1
      refine ⟨by show p ≤ p / 2 ^ k * 2 ^ k; omega, ?_, hl.1⟩
      show (p / 2 ^ k + 1) * 2 ^ k ≤ hi
      rw [Nat.add_mul, e, Nat.one_mul]
      have := hl.2.2.1
      omega
    · have := ih a ha
      exact ⟨by have := p2 k; omega, this.2⟩
theorem cov_ok {a b : Nat} (hb : b ≤ 4611686018427387904) {x : Nat × Nat} (h : x ∈ cov a b) : okA x.1 x.2 := by
  have := cov_in a b x h
  exact (okA_nat _ _).2 ⟨this.2.2, by omega⟩
section
variable {g : Nat} {fb lb : Array Value} {ask : Nat → Nat × Nat → ByteArray × Int} {J : (Nat → Prop) → List (Nat × Nat) → World → Prop} {N : Nat} {D : Nat → Prop}
def HashC (wd sz : Int) : Prop := ∀ (F : Nat → Prop) (l : List (Nat × Nat)) (a b : Nat) (w : World), a ≤ b → b ≤ 4611686018427387904 → l.length + 122 ≤ N → J F l w →
  Calls Tryd.prog 31 #[rv wd sz g fb lb, .agg #[.int .i64 a, .int .i64 b]] w fun e w' => e = .returned (.tuple #[.string (hashP (okw wd) (fow wd) ask l (a, b)).1, .int .i64 (hashP (okw wd) (fow wd) ask l (a, b)).2.1]) ∧ ∃ F', J F' (hashP (okw wd) (fow wd) ask l (a, b)).2.2 w' ∧ Goes F w F' w'
set_option maxHeartbeats 3200000 in
theorem hashC (R : Rd g fb lb ask J N D) (wd sz : Int) (hwd : i64 wd) : HashC (g := g) (fb := fb) (lb := lb) (ask := ask) (J := J) (N := N) wd sz := by
  intro F l a b w hab hb hN hJ
  unfold rv
  have RR : Hid (Rd g fb lb ask J N D) := R
  have eg := R.enter
  have HJ : Hid (J F l w) := hJ
  obtain ⟨L, HL⟩ : ∃ L, Hid (cov a b = L) := ⟨_, rfl⟩
  have HOK : Hid (∀ x ∈ L, okA x.1 x.2) := by show ∀ x ∈ L, _; rw [← HL.out]; intro x hx; exact cov_ok hb hx
  have hlen : L.length ≤ 122 := by rw [← HL.out]; exact cov_len a b hab (by rw [p62]; exact hb)
  have hcI : covI (a : Int) (b : Int) = L := by unfold covI; rw [if_pos ⟨by omega, by omega, by omega⟩, Int.toNat_natCast, Int.toNat_natCast, HL.out]
  have hcE : covE (a : Int) (b : Int) = 0 := by unfold covE; rw [if_pos ⟨by omega, by omega, by omega⟩]
  have COV : Hid (∀ w, TabB w → Calls Tryd.prog 64 #[.int .i64 a, .int .i64 b] w fun e w' => (∃ v, e = .returned (.tuple #[v, .int .i64 0]) ∧ w'.ownsRow w.heap.size 36 2 v L.length (cls L)) ∧ Below w.heap.size w w') := by
    intro w hw
    have := coverC.covers (a : Int) (b : Int) (i64_nat (by omega)) (i64_nat hb) w hw
    unfold Rowed at this
    rw [hcI, hcE] at this
    exact this
  obtain ⟨n, HLN⟩ : ∃ n, Hid (L.length = n) := ⟨_, rfl⟩
  rw [HLN.out] at hlen
  have B0 : Hid (Below w.heap.size w ((w.alloc (.cells #[.int .i64 wd, .int .i64 sz, .func (.func g) fb lb] 24)).alloc (.cells #[.int .i64 a, .int .i64 b] 63))) := ((Below.refl _ _).alloc (Nat.le_refl _) _).alloc (by simp) _
  have BX : Hid (((w.alloc (.cells #[.int .i64 wd, .int .i64 sz, .func (.func g) fb lb] 24)).alloc (.cells #[.int .i64 a, .int .i64 b] 63)).cell? ⟨w.heap.size, 0, none⟩ = some (.int .i64 wd) ∧ ((w.alloc (.cells #[.int .i64 wd, .int .i64 sz, .func (.func g) fb lb] 24)).alloc (.cells #[.int .i64 a, .int .i64 b] 63)).cell? ⟨w.heap.size, 2, none⟩ = some (.func (.func g) fb lb)) := by
    have h3 := three_box w (.int .i64 wd) (.int .i64 sz) (.func (.func g) fb lb) 24
    have hb1 : Below (w.alloc (.cells #[.int .i64 wd, .int .i64 sz, .func (.func g) fb lb] 24)).heap.size (w.alloc (.cells #[.int .i64 wd, .int .i64 sz, .func (.func g) fb lb] 24)) ((w.alloc (.cells #[.int .i64 wd, .int .i64 sz, .func (.func g) fb lb] 24)).alloc (.cells #[.int .i64 a, .int .i64 b] 63)) := (Below.refl _ _).alloc (Nat.le_refl _) _
    exact ⟨(hb1.cell (World.block_lt_of_cell? _ _ h3.1)).trans h3.1, (hb1.cell (World.block_lt_of_cell? _ _ h3.2.2)).trans h3.2.2⟩
  have T0 : Hid (TB w) := R.tab hJ
  have HP : Hid (∀ x y : Int × List (Nat × Nat), x = y → True) := fun _ _ _ => trivial
  obtain ⟨hsh, HSH⟩ : ∃ q, Hid (hashP (okw wd) (fow wd) ask l (a, b) = q) := ⟨_, rfl⟩
  have HTE : Hid (∀ r : List ByteArray × Int × List (Nat × Nat), tell (okw wd) ask l L = r → hsh = (if r.2.1 = 0 then fow wd r.1 else ByteArray.empty, r.2)) := by
    rintro r rfl
    rw [← HSH.out, ← HL.out]
    rfl
  rw [HSH.out]
  obtain ⟨i9, hi9', hz0, hz1, hz2⟩ := ka.info_parts ka.hi9
  have HIN : Hid (_ ∧ _ ∧ _ ∧ _) := ⟨hi9', hz0, hz1, hz2⟩
  clear hJ hcI hcE hi9' hz0 hz1 hz2 R HP
  go_enter Tryd.func31, Tryd.ntmps31
  go_wp2_with fail
  refine (COV.out _ (T0.out.d.later B0.out)).mono ?_
  rintro e w1 ⟨⟨v, rfl, hrow⟩, hb1⟩
  rw [HLN.out] at hrow
  obtain ⟨av, cap, rfl⟩ := own_formS hrow
  have B1 : Hid (Below w.heap.size w w1) := over B0.out hb1
  have BX1 : Hid (w1.cell? ⟨w.heap.size, 0, none⟩ = some (.int .i64 wd) ∧ w1.cell? ⟨w.heap.size, 2, none⟩ = some (.func (.func g) fb lb)) := ⟨(hb1.cell (World.block_lt_of_cell? _ _ BX.out.1)).trans BX.out.1, (hb1.cell (World.block_lt_of_cell? _ _ BX.out.2)).trans BX.out.2⟩
  have HROW : Hid (w1.ownsRow (w.heap.size + 2) 36 2 (.slice av n cap) n (cls L)) := by
    have := hrow
    simp only [World.size_alloc] at this
    exact this
  have J1 : Hid (J F l w1) := RR.out.later HJ.out B1.out
  obtain ⟨w2, hmk, how, hgr⟩ := run_makeSlice_owned (P := Tryd.prog) (w := w1) w1.heap.size 28 9 i9 (.string ByteArray.empty) 1 Tryd.underlying28 HIN.out.1 HIN.out.2.1 HIN.out.2.2.1 .i64 .i64 n (by omega) (by rw [HIN.out.2.2.2]; omega) (by unfold maxLen; omega) (Nat.le_refl _)
  have HH0 : Hid (Hl RR.out wd (.func (.func g) fb lb) (.slice av n cap) F w l L w.heap.size w1.heap.size 0 (.slice (some ⟨w1.heap.size, 0, none⟩) 0 n) w2 F l []) := by
    have hb2 : Below w1.heap.size w1 w2 := ⟨hgr.os, hgr.tape, hgr.output, hgr.size, fun k hk => hgr.block k hk (by simp)⟩
    have hlt1 := World.block_lt_of_cell? _ _ BX1.out.1
    refine ⟨RR.out.later J1.out hb2, (Goes.of_below (over B1.out hb2)), (hb2.cell hlt1).trans BX1.out.1, (hb2.cell (World.block_lt_of_cell? _ _ BX1.out.2)).trans BX1.out.2, fun h => Nat.lt_irrefl _ (RR.out.within HJ.out _ h), hlt1, (own_readsA HROW.out).later hb2, ?_, how, ?_, ⟨B1.out.size, hgr.size⟩, RR.out.big HJ.out, ⟨Nat.zero_le _, rfl, rfl⟩, ?_, fun x hx => by cases hx⟩
    · intro b' off n' cap' he
      obtain ⟨hlo, hhi⟩ := owns_lt HROW.out (g := b') (by rw [he]; rfl)
      exact ⟨fun h => by have := RR.out.within HJ.out _ h; omega, hlo⟩
    · intro g' hg' hF
      have := RR.out.within HJ.out _ hF
      have e := Option.some.inj hg'
      have := B1.out.size
      have : w1.heap.size = g' := e
      omega
    · rw [List.drop_zero, List.nil_append]
  clear hrow hb1 B0 BX BX1 HROW J1 B1 how hgr
  go_wp2
  go_loopw [8, 26] (fun u i wr => ∃ k : Nat, i = .int .i64 k ∧ k ≤ n ∧ ∃ F' l' acc, Hid (Hl RR.out wd (.func (.func g) fb lb) (.slice av n cap) F w l L w.heap.size w1.heap.size k u wr F' l' acc)) (fun _ i _ => (n - intOf i).toNat)
  case atStart => exact ⟨0, rfl, Nat.zero_le _, F, l, [], HH0.out⟩
  case round =>
    clear hmk HH0
    obtain ⟨k, rfl, hkn, F', l', acc, HLP⟩ := hrel
    by_cases hk : k < n
    · have hk' : (k : Int) < n := by omega
      have hkl : k < L.length := by rw [HLN.out]; exact hk
      obtain ⟨x, hx⟩ : ∃ x, L[k]? = some x := ⟨_, List.getElem?_eq_getElem hkl⟩
      obtain ⟨b1, rfl, c1, c2⟩ := row_at HLP.out.nodes (k := x.1) (i := x.2) hx
      have HXX : Hid (L.drop k = x :: L.drop (k + 1) ∧ x ∈ L) := by
        have e := List.getElem?_eq_some_iff.1 hx
        exact ⟨by rw [List.drop_eq_getElem_cons hkl, e.2], List.mem_of_getElem? hx⟩
      have hok := HOK.out x HXX.out.2
      have BA : Hid (Below wr.heap.size wr (wr.alloc (.cells #[.int .i64 x.1, .int .i64 x.2] 36))) := (Below.refl _ _).alloc (Nat.le_refl _) _
      have d2 : (wr.alloc (.cells #[.int .i64 x.1, .int .i64 x.2] 36)).cell? ⟨w.heap.size, 2, none⟩ = some (.func (.func g) fb lb) := (BA.out.cell (World.block_lt_of_cell? _ _ HLP.out.box2)).trans HLP.out.box2
      have C1 : Hid (Calls _ _ _ _ _) := RR.out.call F' l' x (wr.alloc (.cells #[.int .i64 x.1, .int .i64 x.2] 36)) (by have := HLP.out.kk; rw [HLN.out] at this; omega) hok (RR.out.later HLP.out.j BA.out)
      obtain ⟨h, HH⟩ : ∃ h, Hid ((ask (l'.length + 1) x).1 = h) := ⟨_, rfl⟩
      obtain ⟨c, HC⟩ : ∃ c, Hid ((ask (l'.length + 1) x).2 = c) := ⟨_, rfl⟩
      rw [HH.out, HC.out] at C1
      have hw1 : IntKind.i64.wrap (x.1 : Int) = x.1 := wrap_is _ (by have := (okA_nat _ _).1 hok; omega)
      clear hx hok
      go_wp2_with fail
      refine C1.out.mono ?_
      rintro e w3 ⟨rfl, F3, hJ3, hG3⟩
      have J3 : Hid (J F3 (l' ++ [x]) w3) := hJ3
      have G3 : Hid (Goes F w F3 w3) := (HLP.out.go.trans (Goes.of_below BA.out)).trans hG3
      have c3 : w3.cell? ⟨w.heap.size, 0, none⟩ = some (.int .i64 wd) := hG3.cell ((BA.out.cell (World.block_lt_of_cell? _ _ HLP.out.box0)).trans HLP.out.box0) HLP.out.out
      have HG3 : Hid (Goes F' (wr.alloc (.cells #[.int .i64 x.1, .int .i64 x.2] 36)) F3 w3) := hG3
      clear hJ3 hG3 d2
      by_cases hc : c = 0
      · subst hc
        have IC : Hid (Calls _ _ _ _ _) := isHash wd h w3 hwd
        obtain ⟨t, HT⟩ : ∃ t, Hid (decide (h.size = wid wd) = t) := ⟨_, rfl⟩
        rw [HT.out] at IC
        go_wp2_with fail
        refine IC.out.mono ?_
        rintro e w4 ⟨rfl, hw4⟩
        subst hw4
        cases t
        · have HE : Hid (hsh = (ByteArray.empty, 72, l' ++ [x])) := by
            have h1 := HLP.out.eq
            rw [HXX.out.1, tell_len (okw wd) ask HC.out (by rw [HH.out]; exact HT.out)] at h1
            exact HTE.out _ h1
          go_wp2
          go_ret2
          exact ⟨by rw [HE.out]; rfl, F3, by rw [HE.out]; exact J3.out, G3.out⟩
        · have hsz : h.size = wid wd := of_decide_eq_true HT.out
          have HEQ : Hid (tell (okw wd) ask l L = ((acc ++ [h]) ++ (tell (okw wd) ask (l' ++ [x]) (L.drop (k + 1))).1, (tell (okw wd) ask (l' ++ [x]) (L.drop (k + 1))).2)) := by
            have h1 := HLP.out.eq
            rw [HXX.out.1, tell_yes (okw wd) ask HC.out (by rw [HH.out]; exact HT.out), HH.out] at h1
            show _ = _
            rw [h1, List.append_assoc]
            rfl
          have OWB : Hid (_ ∧ Beside F3 u8) := HG3.out.owns (own_later HLP.out.own BA.out) HLP.out.bes
          have BB : Hid (Below w4.heap.size w4 (w4.alloc (.cells #[.string h] 9))) := (Below.refl _ _).alloc (Nat.le_refl _) _
          have OX : Hid ((w4.alloc (.cells #[.string h] 9)).ownsRow w1.heap.size 9 1 u8 k (acc.map Value.string)) := own_later OWB.out.1 BB.out
          have SX : Hid (w1.heap.size ≤ (w4.alloc (.cells #[.string h] 9)).heap.size) := by
            have h1 := HLP.out.base_le.2
            have h2 := BA.out.size
            have h3 := HG3.out.1.size
            have h4 := BB.out.size
            show _ ≤ _
            omega
          have hwl := wid_le wd
          clear hsz
          go_wp2_with (at_builtin; refine wpList_append_own_at _ rfl _ _ 28 rfl w1.heap.size 9 i9 (.string ByteArray.empty) 1 16 Tryd.underlying28 HIN.out.1 HIN.out.2.1 HIN.out.2.2.1 HIN.out.2.2.2 rfl (by decide) _ k _ rfl OX.out ⟨w4.heap.size, 0, none⟩ 1 1 [.string h] rfl rfl (new_text _ _ _) (one_text _) (by unfold maxLen; omega) (by omega) SX.out ?_; intro p' w5 ho hg hnn hat; have HO5 : Hid (w5.ownsRow w1.heap.size 9 1 p' (k + 1) (acc.map Value.string ++ [.string h])) := ho; have HG5 : Hid ((w4.alloc (.cells #[.string h] 9)).grownBy w5 u8.ownBlock ∧ (p'.ownBlock = u8.ownBlock ∨ p'.ownBlock = some (w4.alloc (.cells #[.string h] 9)).heap.size)) := ⟨hg, hat⟩; clear ho hg hnn hat)
          go_roundw
          case rel =>
            obtain ⟨j5, g5, b5⟩ := grow_beside RR.out (RR.out.later J3.out BB.out) (G3.out.trans (Goes.of_below BB.out)) HLP.out.base_le.1 HLP.out.bx OX.out OWB.out.2 HG5.out.1 HG5.out.2
            have hbs : ∀ b, b < w1.heap.size → b < (w4.alloc (.cells #[.string h] 9)).heap.size → w5.heap[b]? = (w4.alloc (.cells #[.string h] 9)).heap[b]? := fun b hb hlt => HG5.out.1.block b hlt (fun e => by have := (owns_lt OX.out e.symm).2; omega)
            have cB : ∀ {o : Nat} {v : Value}, wr.cell? ⟨w.heap.size, o, none⟩ = some v → w5.cell? ⟨w.heap.size, o, none⟩ = some v := by
              intro o v hv
              have v1 := (BA.out.cell (World.block_lt_of_cell? _ _ hv)).trans hv
              have v2 := HG3.out.cell v1 HLP.out.out
              have v3 := (BB.out.cell (World.block_lt_of_cell? _ _ v2)).trans v2
              exact (World.cell?_of_block (a := ⟨w.heap.size, o, none⟩) (hbs _ HLP.out.lt (World.block_lt_of_cell? _ _ v3))).trans v3
            have hro : ReadsA w5 (.slice (some ⟨b1, 0, none⟩) n cap) L := by
              have r1 := HG3.out.readsA (HLP.out.nodes.later BA.out) (fun b off n cap he => (HLP.out.nout b off n cap he).1)
              exact readsA_keep (r1.later BB.out) (fun b off n cap he hlt => hbs b (HLP.out.nout b off n cap he).2 hlt)
            refine ⟨k + 1, by go_num, by omega, F3, l' ++ [x], acc ++ [h], ⟨j5, g5, cB HLP.out.box0, cB HLP.out.box2, ?_, HLP.out.lt, hro, ?_, ?_, b5, ⟨HLP.out.base_le.1, ?_⟩, HLP.out.bx, ⟨by rw [HLN.out]; omega, ?_, ?_⟩, HEQ.out, ?_⟩⟩
            · exact HG3.out.out (World.block_lt_of_cell? _ _ ((BA.out.cell (World.block_lt_of_cell? _ _ HLP.out.box0)).trans HLP.out.box0)) HLP.out.out
            · intro b off n' cap' he
              have q := HLP.out.nout b off n' cap' he
              exact ⟨HG3.out.out (by have := HLP.out.base_le.2; have := BA.out.size; omega) q.1, q.2⟩
            · rw [List.map_append]; exact HO5.out
            · exact Nat.le_trans SX.out HG5.out.1.size
            · rw [List.length_append, HLP.out.kk.2.1]; rfl
            · rw [List.length_append, HLP.out.kk.2.2]; rfl
            · intro y hy
              rcases List.mem_append.1 hy with hy | hy
              · exact HLP.out.fit y hy
              · rcases List.mem_cons.1 hy with rfl | hy
                · have : y.size = wid wd := of_decide_eq_true HT.out
                  omega
                · cases hy
          case measure => simp [intOf]; omega
      · have q0 : (c == 0) = false := by rw [beq_eq_false_iff_ne]; exact hc
        have HE : Hid (hsh = (ByteArray.empty, c, l' ++ [x])) := by
          have h1 := HLP.out.eq
          rw [HXX.out.1, tell_no (okw wd) ask (by rw [HC.out]; exact hc), HC.out] at h1
          have h2 := HTE.out _ h1
          rw [if_neg hc] at h2
          exact h2
        clear hc
        go_wp2
        go_ret2
        exact ⟨by rw [HE.out]; rfl, F3, by rw [HE.out]; exact J3.out, G3.out⟩
    · obtain rfl : n = k := by omega
      have hRT := own_readsT HLP.out.own
      have FC : Hid (Calls _ _ _ _ _) := pFold wd u8 acc wr (RR.out.tab HLP.out.j).t hRT HLP.out.fit (by rw [HLP.out.kk.2.1]; omega)
      have HE : Hid (hsh = (foldP (EF wd) (NF wd) acc, 0, l')) := by
        have h1 := HLP.out.eq
        rw [List.drop_of_length_le (by rw [HLN.out]; exact Nat.le_refl _)] at h1
        have h2 := HTE.out _ h1
        simp only [tell, List.append_nil] at h2
        rw [if_pos trivial] at h2
        exact h2
      obtain ⟨r, HR⟩ : ∃ r, Hid (foldP (EF wd) (NF wd) acc = r) := ⟨_, rfl⟩
      rw [HR.out] at FC HE
      have c3 := HLP.out.box0
      clear hRT hk
      go_wp2_with fail
      refine FC.out.mono ?_
      rintro e w3 ⟨rfl, hb3⟩
      have B3 : Hid (Below wr.heap.size wr w3) := hb3
      clear hb3
      go_wp2
      go_ret2
      exact ⟨by rw [HE.out]; rfl, F', by rw [HE.out]; exact RR.out.later HLP.out.j B3.out, HLP.out.go.trans (Goes.of_below B3.out)⟩
end
end Go.Proofs.YtglffbhcnafbnaaDoor.bd
