import Derived.Test.YtajfcddabkhamaaDoorY14
namespace Go.Proofs.YtajfcddabkhamaaDoor.v2
open Go.RowKit Go.PlainAid Go.Shelf
open Go.Proofs.YtajfcddabkhamaaDoor.pl Go.Proofs.YtajfcddabkhamaaDoor.pi Go.Proofs.YtajfcddabkhamaaDoor.rf Go.Proofs.YtajfcddabkhamaaDoor.pj Go.Proofs.YtajfcddabkhamaaDoor.ca Go.Proofs.YtajfcddabkhamaaDoor.cb Go.Proofs.YtajfcddabkhamaaDoor.cp Go.Proofs.YtajfcddabkhamaaDoor.cs Go.Proofs.YtajfcddabkhamaaDoor.xc Go.Proofs.YtajfcddabkhamaaDoor.ka Go.Proofs.YtajfcddabkhamaaDoor.kb Go.Proofs.YtajfcddabkhamaaDoor.ga Go.Proofs.YtajfcddabkhamaaDoor.aa Go.Proofs.YtajfcddabkhamaaDoor.ab Go.Proofs.YtajfcddabkhamaaDoor.tb Go.Proofs.YtajfcddabkhamaaDoor.ac Go.Proofs.YtajfcddabkhamaaDoor.bc Go.Proofs.YtajfcddabkhamaaDoor.bd Go.Proofs.YtajfcddabkhamaaDoor.a2 Go.Proofs.YtajfcddabkhamaaDoor.v1
set_option linter.unusedVariables false

def Bx7 (w : World) (rb : Nat) (wd : Int) (f : Value) (h l i c : Nat) : Prop :=
  w.cell? ⟨rb, 0, none⟩ = some (.int .i64 wd) ∧ w.cell? ⟨rb, 2, none⟩ = some f ∧ w.cell? ⟨rb + 1, 0, none⟩ = some (.int .i64 (h : Int)) ∧ w.cell? ⟨rb + 1, 1, none⟩ = some (.int .i64 (l : Int)) ∧ w.cell? ⟨rb + 1, 2, none⟩ = some (.int .i64 (i : Int)) ∧ w.cell? ⟨rb + 1, 3, none⟩ = some (.int .i64 (c : Int))
theorem Bx7.map {w w' : World} {rb : Nat} {wd : Int} {f : Value} {h l i c : Nat} (x : Bx7 w rb wd f h l i c) (k : ∀ (b o : Nat) (v : Value), (b = rb ∨ b = rb + 1) → w.cell? ⟨b, o, none⟩ = some v → w'.cell? ⟨b, o, none⟩ = some v) : Bx7 w' rb wd f h l i c :=
  ⟨k _ _ _ (.inl rfl) x.1, k _ _ _ (.inl rfl) x.2.1, k _ _ _ (.inr rfl) x.2.2.1, k _ _ _ (.inr rfl) x.2.2.2.1, k _ _ _ (.inr rfl) x.2.2.2.2.1, k _ _ _ (.inr rfl) x.2.2.2.2.2⟩
theorem Bx7.later {w w' : World} {rb : Nat} {wd : Int} {f : Value} {h l i c : Nat} (x : Bx7 w rb wd f h l i c) (hb : Below w.heap.size w w') : Bx7 w' rb wd f h l i c :=
  x.map fun b o v _ hv => (hb.cell (World.block_lt_of_cell? _ _ hv)).trans hv
theorem Bx7.new (w : World) (wd sz : Int) (f : Value) (h l i c : Nat) : Bx7 ((w.alloc (.cells #[.int .i64 wd, .int .i64 sz, f] 35)).alloc (.cells #[.int .i64 (h : Int), .int .i64 (l : Int), .int .i64 (i : Int), .int .i64 (c : Int)] 27)) w.heap.size wd f h l i c := by
  have h3 := three_box w (.int .i64 wd) (.int .i64 sz) f 35
  have hb : Below (w.alloc (.cells #[.int .i64 wd, .int .i64 sz, f] 35)).heap.size (w.alloc (.cells #[.int .i64 wd, .int .i64 sz, f] 35)) ((w.alloc (.cells #[.int .i64 wd, .int .i64 sz, f] 35)).alloc (.cells #[.int .i64 (h : Int), .int .i64 (l : Int), .int .i64 (i : Int), .int .i64 (c : Int)] 27)) := (Below.refl _ _).alloc (Nat.le_refl _) _
  have h4 := box4 (w.alloc (.cells #[.int .i64 wd, .int .i64 sz, f] 35)) _ (.int .i64 (h : Int)) (.int .i64 (l : Int)) (.int .i64 (i : Int)) (.int .i64 (c : Int)) 27 (Below.refl _ _)
  rw [World.size_alloc] at h4
  exact ⟨(hb.cell (World.block_lt_of_cell? _ _ h3.1)).trans h3.1, (hb.cell (World.block_lt_of_cell? _ _ h3.2.2)).trans h3.2.2, h4.1, h4.2.1, h4.2.2.1, h4.2.2.2⟩
section
variable {g : Nat} {fb lb : Array Value} {ask : Nat → Nat × Nat → ByteArray × Int} {J : (Nat → Prop) → List (Nat × Nat) → World → Prop} {N : Nat} {D : Nat → Prop}
-- asking for a tile's nodes: what holds ahead of each
structure Ha (R : Rd g fb lb ask J N D) (wd : Int) (f : Value) (F0 : Nat → Prop) (w0 : World) (l0 L : List (Nat × Nat)) (h l i c rb base : Nat) (k : Nat) (u : Value) (wr : World) (F : Nat → Prop) (al : List (Nat × Nat)) (acc : List ByteArray) : Prop where
  j : J F al wr
  go : Goes F0 w0 F wr
  bx7 : Bx7 wr rb wd f h l i c
  out : ¬ F rb ∧ ¬ F (rb + 1)
  lt : rb + 1 < base
  own : wr.ownsRow base 9 1 u k (acc.map Value.string)
  bes : Beside F u
  base_le : w0.heap.size ≤ base ∧ base ≤ wr.heap.size
  bx : ∀ b, D b → b < w0.heap.size
  kk : k ≤ L.length ∧ acc.length = k ∧ al.length = l0.length + k
  eq : tell (okw wd) ask l0 L = (acc ++ (tell (okw wd) ask al (L.drop k)).1, (tell (okw wd) ask al (L.drop k)).2)
theorem Ha.later {R : Rd g fb lb ask J N D} {wd : Int} {f : Value} {F0 : Nat → Prop} {w0 : World} {l0 L : List (Nat × Nat)} {h l i c rb base : Nat} {k : Nat} {u : Value} {wr w' : World} {F : Nat → Prop} {al : List (Nat × Nat)} {acc : List ByteArray} (x : Ha R wd f F0 w0 l0 L h l i c rb base k u wr F al acc) (hb : Below wr.heap.size wr w') : Ha R wd f F0 w0 l0 L h l i c rb base k u w' F al acc :=
  ⟨R.later x.j hb, x.go.trans (Goes.of_below hb), x.bx7.later hb, x.out, x.lt, own_later x.own hb, x.bes, ⟨x.base_le.1, Nat.le_trans x.base_le.2 hb.size⟩, x.bx, x.kk, x.eq⟩
set_option maxHeartbeats 3200000 in
theorem askC (R : Rd g fb lb ask J N D) (wd sz : Int) (hwd : i64 wd) (F : Nat → Prop) (al : List (Nat × Nat)) (h l i c : Nat) (h1 : 1 ≤ h) (h8 : h ≤ 8) (hl : l * h ≤ 62) (hc1 : 1 ≤ c) (hc : c ≤ 2 ^ h) (hr : (i * 2 ^ h + c) * 2 ^ (l * h) ≤ 4611686018427387904) (w : World) (hN : al.length + 256 ≤ N) (hJ : J F al w) :
    Calls Tryd.prog 12 #[.agg #[.int .i64 wd, .int .i64 sz, .func (.func g) fb lb], .agg #[.int .i64 (h : Int), .int .i64 (l : Int), .int .i64 (i : Int), .int .i64 (c : Int)]] w fun e w' =>
      (∃ v, e = .returned (.tuple #[v, .int .i64 (tell (okw wd) ask al (nds (l * h) (i * 2 ^ h) c)).2.1]) ∧ ((tell (okw wd) ask al (nds (l * h) (i * 2 ^ h) c)).2.1 = 0 → w'.ownsRow w.heap.size 9 1 v (tell (okw wd) ask al (nds (l * h) (i * 2 ^ h) c)).1.length ((tell (okw wd) ask al (nds (l * h) (i * 2 ^ h) c)).1.map Value.string))) ∧ ∃ F', J F' (tell (okw wd) ask al (nds (l * h) (i * 2 ^ h) c)).2.2 w' ∧ Goes F w F' w' := by
  have RR : Hid (Rd g fb lb ask J N D) := R
  have eg := R.enter
  have HJ : Hid (J F al w) := hJ
  have hF2 : 2 ^ h ≤ 256 := Nat.le_trans (p2le h8) (by decide)
  have HC9 : Hid (c ≤ 256) := Nat.le_trans hc hF2
  have HOK : Hid (∀ k, k < c → okA ((l * h : Nat) : Int) ((i * 2 ^ h + k : Nat) : Int)) := nds_ok h1 hl hr
  have hi9 : i * 2 ^ h + c ≤ 4611686018427387904 := Nat.le_trans (Nat.le_mul_of_pos_right _ (p2 (l * h))) hr
  have hLl : (nds (l * h) (i * 2 ^ h) c).length = c := nds_len _ _ _
  have HG : Hid (∀ k, k < c → (nds (l * h) (i * 2 ^ h) c).drop k = (l * h, i * 2 ^ h + k) :: (nds (l * h) (i * 2 ^ h) c).drop (k + 1)) := nds_drop _ _ _
  have hml : IntKind.i64.wrap ((l : Int) * (h : Int)) = ((l * h : Nat) : Int) := by rw [← Int.natCast_mul, IntKind.wrap_i64]; omega
  have hmi : IntKind.i64.wrap ((i : Int) * ((2 ^ h : Nat) : Int)) = ((i * 2 ^ h : Nat) : Int) := by rw [← Int.natCast_mul, IntKind.wrap_i64]; omega
  have FC : Hid (∀ w, Calls _ _ _ _ _) := fun w => fullC h (by omega) w
  have WC : Hid (∀ w, Calls _ _ _ _ _) := fun w => widC8 wd w
  obtain ⟨L, HL⟩ : ∃ L, Hid (nds (l * h) (i * 2 ^ h) c = L) := ⟨_, rfl⟩
  obtain ⟨Lv, HLv⟩ : ∃ x, Hid (l * h = x) := ⟨_, rfl⟩
  obtain ⟨P, HP⟩ : ∃ x : Nat, Hid ((2 : Nat) ^ h = x) := ⟨_, rfl⟩
  rw [HL.out] at hLl HG ⊢
  rw [HLv.out] at HOK HG hml
  rw [HP.out] at HOK HG hmi FC hi9
  obtain ⟨I0, HI0⟩ : ∃ x, Hid (i * P = x) := ⟨_, rfl⟩
  rw [HI0.out] at HOK HG hmi hi9
  obtain ⟨q, HQ⟩ : ∃ q, Hid (tell (okw wd) ask al L = q) := ⟨_, rfl⟩
  rw [HQ.out]
  have BX0 : Hid (Bx7 _ _ _ _ _ _ _ _) := Bx7.new w wd sz (.func (.func g) fb lb) h l i c
  obtain ⟨W, HW⟩ : ∃ W, Hid ((w.alloc (.cells #[.int .i64 wd, .int .i64 sz, .func (.func g) fb lb] 35)).alloc (.cells #[.int .i64 (h : Int), .int .i64 (l : Int), .int .i64 (i : Int), .int .i64 (c : Int)] 27) = W) := ⟨_, rfl⟩
  rw [HW.out] at BX0
  have BW : Hid (Below w.heap.size w W) := by show Below _ _ _; rw [← HW.out]; exact ((Below.refl _ _).alloc (Nat.le_refl _) _).alloc (by simp) _
  have zW : W.heap.size = w.heap.size + 2 := by rw [← HW.out]; simp
  have HH0 : Hid (Ha RR.out wd (.func (.func g) fb lb) F w al L h l i c w.heap.size W.heap.size 0 (.slice none 0 0) W F al []) := by
    refine ⟨RR.out.later HJ.out BW.out, Goes.of_below BW.out, BX0.out, ⟨fun x => Nat.lt_irrefl _ (RR.out.within HJ.out _ x), fun x => by have := RR.out.within HJ.out _ x; omega⟩, by omega, World.ownsRow_nil _ _ _ _, fun b hb => (by cases hb), ⟨BW.out.size, Nat.le_refl _⟩, RR.out.big HJ.out, ⟨Nat.zero_le _, rfl, rfl⟩, by rw [List.drop_zero, List.nil_append]⟩
  obtain ⟨y0, y2, t0, t1, t2, t3⟩ := BX0.out
  obtain ⟨i9, hi9', hz0, hz1, hz2⟩ := ka.info_parts ka.hi9
  have HIN : Hid (_ ∧ _ ∧ _ ∧ _) := ⟨hi9', hz0, hz1, hz2⟩
  have HLL : Hid (L.length = c) := hLl
  clear hJ R hi9' hz0 hz1 hz2 hr hl h1 h8 hc hF2
  go_enter Tryd.func12, Tryd.ntmps12
  go_wp2_with fail
  rw [HW.out]
  go_quiet ((go_at_call 21; exact Calls.quiet_of_same (FC.out _)))
  obtain ⟨W1, HW1⟩ : ∃ W1, Hid (W.drewN nq = W1) := ⟨_, rfl⟩
  have HH1 : Hid (Ha RR.out wd (.func (.func g) fb lb) F w al L h l i c w.heap.size W.heap.size 0 (.slice none 0 0) W1 F al []) := by rw [← HW1.out]; exact HH0.out.later (below_dN (Below.refl _ _) _)
  rw [HW1.out]
  clear y0 y2 t0 t1 t2 t3 HH0 BX0 HW1
  obtain ⟨y0, y2, t0, t1, t2, t3⟩ := HH1.out.bx7
  go_wp2
  clear y0 y2 t0 t1 t2 t3
  go_loopw [6, 19] (fun u x wr => ∃ k : Nat, x = .int .i64 k ∧ k ≤ c ∧ ∃ F' al' acc, Hid (Ha RR.out wd (.func (.func g) fb lb) F w al L h l i c w.heap.size W.heap.size k u wr F' al' acc)) (fun _ x _ => (c - intOf x).toNat)
  case atStart => exact ⟨0, rfl, Nat.zero_le _, F, al, [], HH1.out⟩
  case round =>
    clear HH1
    obtain ⟨k, rfl, hkn, F', al', acc, HLP⟩ := hrel
    obtain ⟨y0, y2, t0, t1, t2, t3⟩ := HLP.out.bx7
    by_cases hk : k < c
    · have hk' : (k : Int) < c := by omega
      have HXX : Hid (L.drop k = (Lv, I0 + k) :: L.drop (k + 1)) := HG.out k hk
      have hok := HOK.out k hk
      have C1 : Hid (Calls _ _ _ _ _) := RR.out.call F' al' (Lv, I0 + k) wr (by have := HLP.out.kk; have := HC9.out; omega) hok HLP.out.j
      obtain ⟨hh, HH⟩ : ∃ h, Hid ((ask (al'.length + 1) (Lv, I0 + k)).1 = h) := ⟨_, rfl⟩
      obtain ⟨cc, HC⟩ : ∃ c, Hid ((ask (al'.length + 1) (Lv, I0 + k)).2 = c) := ⟨_, rfl⟩
      rw [HH.out, HC.out] at C1
      have hw2 : IntKind.i64.wrap ((I0 : Int) + (k : Int)) = ((I0 + k : Nat) : Int) := by rw [IntKind.wrap_i64]; omega
      clear hok
      go_wp2_with fail
      refine C1.out.mono ?_
      rintro e w3 ⟨rfl, F3, hJ3, hG3⟩
      have J3 : Hid (J F3 (al' ++ [(Lv, I0 + k)]) w3) := hJ3
      have G3 : Hid (Goes F w F3 w3) := HLP.out.go.trans hG3
      have HG3 : Hid (Goes F' wr F3 w3) := hG3
      have BX3 : Hid (Bx7 w3 w.heap.size wd (.func (.func g) fb lb) h l i c) := HLP.out.bx7.map fun b o v hb hv => hG3.cell hv (by rcases hb with rfl | rfl; exact HLP.out.out.1; exact HLP.out.out.2)
      clear hJ3 hG3 y0 y2 t0 t1 t2 t3
      have y0 := BX3.out.1
      by_cases hc : cc = 0
      · subst hc
        obtain ⟨t, HT⟩ : ∃ t, Hid (okw wd hh = t) := ⟨_, rfl⟩
        cases t
        · have HE : Hid (q = ([], 72, al' ++ [(Lv, I0 + k)]) ∨ q.2 = (72, al' ++ [(Lv, I0 + k)])) := by
            have h1 := HLP.out.eq
            rw [HXX.out, tell_len (okw wd) ask HC.out (by rw [HH.out]; exact HT.out), HQ.out] at h1
            exact .inr (by rw [h1])
          have hne : ((hh.size : Int) != (wid wd : Int)) = true := by
            have := of_decide_eq_false HT.out
            rw [bne_iff_ne]; omega
          go_wp2_with (go_at_call 24; refine (WC.out _).mono ?_; rintro _ w' ⟨rfl, hw⟩; replace hw := hw.symm; subst hw)
          go_ret2
          have h2 : q.2 = (72, al' ++ [(Lv, I0 + k)]) := by rcases HE.out with e | e; rw [e]; exact e
          exact ⟨⟨_, by rw [h2]; rfl, fun x => by rw [h2] at x; cases x⟩, F3, by rw [h2]; exact J3.out, G3.out⟩
        · have hsz : hh.size = wid wd := of_decide_eq_true HT.out
          have hne : ((hh.size : Int) != (wid wd : Int)) = false := by rw [hsz]; exact bne_self_eq_false _
          have HEQ : Hid (tell (okw wd) ask al L = ((acc ++ [hh]) ++ (tell (okw wd) ask (al' ++ [(Lv, I0 + k)]) (L.drop (k + 1))).1, (tell (okw wd) ask (al' ++ [(Lv, I0 + k)]) (L.drop (k + 1))).2)) := by
            have h1 := HLP.out.eq
            rw [HXX.out, tell_yes (okw wd) ask HC.out (by rw [HH.out]; exact HT.out), HH.out] at h1
            show _ = _
            rw [h1, List.append_assoc]
            rfl
          have OWB : Hid (_ ∧ Beside F3 u6) := HG3.out.owns HLP.out.own HLP.out.bes
          have BB : Hid (Below w3.heap.size w3 (w3.alloc (.cells #[.string hh] 9))) := (Below.refl _ _).alloc (Nat.le_refl _) _
          have OX : Hid ((w3.alloc (.cells #[.string hh] 9)).ownsRow W.heap.size 9 1 u6 k (acc.map Value.string)) := own_later OWB.out.1 BB.out
          have SX : Hid (W.heap.size ≤ (w3.alloc (.cells #[.string hh] 9)).heap.size) := by
            have h1 := HLP.out.base_le.2
            have h3 := HG3.out.1.size
            have h4 := BB.out.size
            show _ ≤ _
            omega
          clear hsz
          have hk9 : k ≤ 256 := by have := HC9.out; omega
          go_wp2_with (first | (go_at_call 24; refine (WC.out _).mono ?_; rintro _ w' ⟨rfl, hw⟩; replace hw := hw.symm; subst hw) | (at_builtin; refine wpList_append_own_at _ rfl _ _ 22 rfl W.heap.size 9 i9 (.string ByteArray.empty) 1 16 Tryd.underlying22 HIN.out.1 HIN.out.2.1 HIN.out.2.2.1 HIN.out.2.2.2 rfl (by decide) _ k _ rfl OX.out ⟨w3.heap.size, 0, none⟩ 1 1 [.string hh] rfl rfl (new_text _ _ _) (one_text _) (by unfold maxLen; omega) (by omega) SX.out ?_; intro p' w5 ho hg hnn hat; have HO5 : Hid (w5.ownsRow W.heap.size 9 1 p' (k + 1) (acc.map Value.string ++ [.string hh])) := ho; have HG5 : Hid ((w3.alloc (.cells #[.string hh] 9)).grownBy w5 u6.ownBlock ∧ (p'.ownBlock = u6.ownBlock ∨ p'.ownBlock = some (w3.alloc (.cells #[.string hh] 9)).heap.size)) := ⟨hg, hat⟩; clear ho hg hnn hat))
          go_roundw
          case rel =>
            obtain ⟨j5, g5, b5⟩ := grow_beside RR.out (RR.out.later J3.out BB.out) (G3.out.trans (Goes.of_below BB.out)) HLP.out.base_le.1 HLP.out.bx OX.out OWB.out.2 HG5.out.1 HG5.out.2
            have hbs : ∀ b, b < W.heap.size → b < (w3.alloc (.cells #[.string hh] 9)).heap.size → w5.heap[b]? = (w3.alloc (.cells #[.string hh] 9)).heap[b]? := fun b hb hlt => HG5.out.1.block b hlt (fun e => by have := (owns_lt OX.out e.symm).2; omega)
            have hlt := HLP.out.lt
            have bx5 : Bx7 w5 w.heap.size wd (.func (.func g) fb lb) h l i c := (BX3.out.later BB.out).map fun b o v hb hv => (World.cell?_of_block (a := ⟨b, o, none⟩) (hbs b (by rcases hb with rfl | rfl <;> omega) (World.block_lt_of_cell? _ _ hv))).trans hv
            refine ⟨k + 1, by go_num, by omega, F3, al' ++ [(Lv, I0 + k)], acc ++ [hh], ⟨j5, g5, bx5, ⟨?_, ?_⟩, HLP.out.lt, ?_, b5, ⟨HLP.out.base_le.1, ?_⟩, HLP.out.bx, ⟨by have := HLL.out; omega, ?_, ?_⟩, HEQ.out⟩⟩
            · exact HG3.out.out (World.block_lt_of_cell? _ _ HLP.out.bx7.1) HLP.out.out.1
            · exact HG3.out.out (World.block_lt_of_cell? _ _ HLP.out.bx7.2.2.1) HLP.out.out.2
            · rw [List.map_append]; exact HO5.out
            · exact Nat.le_trans SX.out HG5.out.1.size
            · rw [List.length_append, HLP.out.kk.2.1]; rfl
            · rw [List.length_append, HLP.out.kk.2.2]; rfl
          case measure => simp [intOf]; omega
      · have q0 : (cc != 0) = true := by rw [bne_iff_ne]; exact hc
        have HE : Hid (q.2 = (cc, al' ++ [(Lv, I0 + k)])) := by
          have h1 := HLP.out.eq
          rw [HXX.out, tell_no (okw wd) ask (by rw [HC.out]; exact hc), HC.out, HQ.out] at h1
          show _ = _
          rw [h1]
        have hc9 := hc
        clear hc
        go_wp2
        go_ret2
        exact ⟨⟨_, by rw [HE.out]; rfl, fun x => by rw [HE.out] at x; exact absurd x hc9⟩, F3, by rw [HE.out]; exact J3.out, G3.out⟩
    · have hk' : ¬ (k : Int) < c := by omega
      obtain rfl : c = k := by omega
      have HE : Hid (q = (acc, 0, al')) := by
        have h1 := HLP.out.eq
        rw [List.drop_of_length_le (by have := HLL.out; omega), HQ.out] at h1
        simp only [tell, List.append_nil] at h1
        exact h1
      have OWN : Hid (wr.ownsRow w.heap.size 9 1 u6 c (acc.map Value.string)) := own_down HLP.out.own HLP.out.base_le.1
      have hal := HLP.out.kk.2.1
      go_wp2
      go_ret2
      refine ⟨⟨_, by rw [HE.out]; rfl, fun _ => ?_⟩, F', by rw [HE.out]; exact HLP.out.j, HLP.out.go⟩
      rw [HE.out]
      show wr.ownsRow w.heap.size _ 1 _ acc.length (acc.map Value.string)
      rw [hal]
      exact OWN.out
end
end Go.Proofs.YtajfcddabkhamaaDoor.v2

namespace Go.Proofs.YtajfcddabkhamaaDoor.v3
open Go.RowKit Go.PlainAid Go.Shelf
open Go.Proofs.YtajfcddabkhamaaDoor.pl Go.Proofs.YtajfcddabkhamaaDoor.pi Go.Proofs.YtajfcddabkhamaaDoor.rf Go.Proofs.YtajfcddabkhamaaDoor.pj Go.Proofs.YtajfcddabkhamaaDoor.ca Go.Proofs.YtajfcddabkhamaaDoor.cb Go.Proofs.YtajfcddabkhamaaDoor.cp Go.Proofs.YtajfcddabkhamaaDoor.cs Go.Proofs.YtajfcddabkhamaaDoor.xc Go.Proofs.YtajfcddabkhamaaDoor.ka Go.Proofs.YtajfcddabkhamaaDoor.kb Go.Proofs.YtajfcddabkhamaaDoor.ga Go.Proofs.YtajfcddabkhamaaDoor.aa Go.Proofs.YtajfcddabkhamaaDoor.ab Go.Proofs.YtajfcddabkhamaaDoor.tb Go.Proofs.YtajfcddabkhamaaDoor.ac Go.Proofs.YtajfcddabkhamaaDoor.bc Go.Proofs.YtajfcddabkhamaaDoor.bd Go.Proofs.YtajfcddabkhamaaDoor.a2 Go.Proofs.YtajfcddabkhamaaDoor.v1 Go.Proofs.YtajfcddabkhamaaDoor.v2 Go.Proofs.YtajfcddabkhamaaDoor.tej Go.Proofs.YtajfcddabkhamaaDoor.hs Go.Proofs.YtajfcddabkhamaaDoor.hd
set_option linter.unusedVariables false

abbrev TL := @Go.Proofs.YtajfcddabkhamaaDoor.a5.Lies
-- what Serve answers
def row8 (wd : Int) (ask : Nat → Nat × Nat → ByteArray × Int) (al : List (Nat × Nat)) (h l i c : Int) : List ByteArray × Int × List (Nat × Nat) := tell (okw wd) ask al (nds (l * h).toNat (i * 2 ^ h.toNat).toNat c.toNat)
def srvA (wd : Int) (ask : Nat → Nat × Nat → ByteArray × Int) (sz n : Int) (h l i c : Int) (al : List (Nat × Nat)) : ByteArray × Int × List (Nat × Nat) :=
  if ¬ TG h l i c then (ByteArray.empty, 230, al) else if sz < 0 ∨ 4611686018427387904 < sz then (ByteArray.empty, 10, al) else if n < 0 ∨ sz < n ∨ ¬ TL h l i c n then (ByteArray.empty, 80, al) else
  if (row8 wd ask al h l i c).2.1 = 0 then (hashT wd (row8 wd ask al h l i c).1, 0, (row8 wd ask al h l i c).2.2) else (ByteArray.empty, (row8 wd ask al h l i c).2.1, (row8 wd ask al h l i c).2.2)
theorem wid_I (wd : Int) : ((wid wd : Nat) : Int) = widI wd := by unfold wid widI; split <;> split <;> omega
theorem row_hash (wd : Int) (xs : List ByteArray) (h : ∀ x ∈ xs, okw wd x = true) (hn : xs.length ≤ 256) : hashV wd xs = .tuple #[.string (hashT wd xs), .int .i64 0] := by
  have e : hashE wd xs = 0 := by
    unfold hashE
    rw [if_neg (by omega), if_pos]
    unfold allW
    rw [List.all_eq_true]
    intro x hx
    have := of_decide_eq_true (h x hx)
    rw [decide_eq_true_iff, ← wid_I, this]
  unfold hashV
  rw [e]
  rfl
theorem liesE {h l i c n : Int} (g : TG h l i c) : TL h l i c n ↔ Go.Proofs.YtajfcddabkhamaaDoor.a4.endT h l i c ≤ n := by
  have e : Go.Proofs.YtajfcddabkhamaaDoor.a4.endT h l i c = (i * 2 ^ h.toNat + c) * 2 ^ (l * h).toNat := by unfold Go.Proofs.YtajfcddabkhamaaDoor.a4.endT; rw [if_pos g]
  rw [e]
  exact ⟨fun x => x.2.2.2.2.2.2.2, fun x => ⟨g.1, g.2.1, g.2.2.1, g.2.2.2.1, g.2.2.2.2.1, g.2.2.2.2.2.1, g.2.2.2.2.2.2.1, x⟩⟩
theorem bx8 (w W w' : World) (wd sz h l i c : Int) (f : Value) (hW : (w.alloc (.cells #[.int .i64 wd, .int .i64 sz, f] 35)).alloc (.cells #[.int .i64 h, .int .i64 l, .int .i64 i, .int .i64 c] 27) = W) (k : Below W.heap.size W w') :
    (w'.cell? ⟨w.heap.size, 0, none⟩ = some (.int .i64 wd) ∧ w'.cell? ⟨w.heap.size, 1, none⟩ = some (.int .i64 sz) ∧ w'.cell? ⟨w.heap.size, 2, none⟩ = some f) ∧ w'.cell? ⟨w.heap.size + 1, 0, none⟩ = some (.int .i64 h) ∧ w'.cell? ⟨w.heap.size + 1, 1, none⟩ = some (.int .i64 l) ∧ w'.cell? ⟨w.heap.size + 1, 2, none⟩ = some (.int .i64 i) ∧ w'.cell? ⟨w.heap.size + 1, 3, none⟩ = some (.int .i64 c) := by
  have h3 := three_box w (.int .i64 wd) (.int .i64 sz) f 35
  have hb : Below (w.alloc (.cells #[.int .i64 wd, .int .i64 sz, f] 35)).heap.size (w.alloc (.cells #[.int .i64 wd, .int .i64 sz, f] 35)) W := by rw [← hW]; exact (Below.refl _ _).alloc (Nat.le_refl _) _
  have h4 := box4 (w.alloc (.cells #[.int .i64 wd, .int .i64 sz, f] 35)) _ (.int .i64 h) (.int .i64 l) (.int .i64 i) (.int .i64 c) 27 (Below.refl _ _)
  rw [World.size_alloc, hW] at h4
  have K : ∀ {b o : Nat} {v : Value}, W.cell? ⟨b, o, none⟩ = some v → w'.cell? ⟨b, o, none⟩ = some v := fun hv => (k.cell (World.block_lt_of_cell? _ _ hv)).trans hv
  exact ⟨⟨K ((hb.cell (World.block_lt_of_cell? _ _ h3.1)).trans h3.1), K ((hb.cell (World.block_lt_of_cell? _ _ h3.2.1)).trans h3.2.1), K ((hb.cell (World.block_lt_of_cell? _ _ h3.2.2)).trans h3.2.2)⟩, K h4.1, K h4.2.1, K h4.2.2.1, K h4.2.2.2⟩
theorem size8 (n : Int) (w : World) : Calls Tryd.prog 11 #[.int .i64 n] w fun e w' => e = .returned (.bool (decide (0 ≤ n) && decide (n ≤ 4611686018427387904))) ∧ w' = w := by
  by_cases h1 : (0 : Int) ≤ n
  · have d1 : decide ((0 : Int) ≤ n) = true := decide_eq_true h1
    clear h1
    go_enter Tryd.func11, Tryd.ntmps11
    go_wp2
    go_ret
    exact ⟨by rw [d1]; rfl, rfl⟩
  · have d1 : decide ((0 : Int) ≤ n) = false := decide_eq_false h1
    clear h1
    go_enter Tryd.func11, Tryd.ntmps11
    go_wp2
    go_ret
    exact ⟨by rw [d1]; rfl, rfl⟩
section
variable {g : Nat} {fb lb : Array Value} {ask : Nat → Nat × Nat → ByteArray × Int} {J : (Nat → Prop) → List (Nat × Nat) → World → Prop} {N : Nat} {D : Nat → Prop}
set_option maxRecDepth 100000 in
set_option maxHeartbeats 3200000 in
theorem serveC (R : Rd g fb lb ask J N D) (wd sz n : Int) (hwd : i64 wd) (F : Nat → Prop) (al : List (Nat × Nat)) (h l i c : Int) (zh : i64 h) (zl : i64 l) (zi : i64 i) (zc : i64 c) (w : World) (hN : al.length + 256 ≤ N) (hJ : J F al w) :
    Calls Tryd.prog 5 #[.agg #[.int .i64 wd, .int .i64 sz, .func (.func g) fb lb], .agg #[.int .i64 h, .int .i64 l, .int .i64 i, .int .i64 c], .int .i64 n] w fun e w' =>
      e = .returned (.tuple #[.string (srvA wd ask sz n h l i c al).1, .int .i64 (srvA wd ask sz n h l i c al).2.1]) ∧ ∃ F', J F' (srvA wd ask sz n h l i c al).2.2 w' ∧ Goes F w F' w' := by
  have qf := fun w => Go.Proofs.YtajfcddabkhamaaDoor.bh.eqF g fb lb w
  have RR : Hid (Rd g fb lb ask J N D) := R
  have HJ : Hid (J F al w) := hJ
  have EC : Hid (∀ w, Calls _ _ _ _ _) := fun w => Go.Proofs.YtajfcddabkhamaaDoor.a4.endsC h l i c zh zl zi zc w
  obtain ⟨q, HQ⟩ : ∃ q, Hid (srvA wd ask sz n h l i c al = q) := ⟨_, rfl⟩
  rw [HQ.out]
  obtain ⟨W, HW⟩ : ∃ W, Hid ((w.alloc (.cells #[.int .i64 wd, .int .i64 sz, .func (.func g) fb lb] 35)).alloc (.cells #[.int .i64 h, .int .i64 l, .int .i64 i, .int .i64 c] 27) = W) := ⟨_, rfl⟩
  have BW : Hid (Below w.heap.size w W) := by show Below _ _ _; rw [← HW.out]; exact ((Below.refl _ _).alloc (Nat.le_refl _) _).alloc (by simp) _
  have SX : Hid (∀ w', Below W.heap.size W w' → _) := fun w' k => bx8 w W w' wd sz h l i c (.func (.func g) fb lb) HW.out k
  have SC : Hid (∀ w, Calls _ _ _ _ _) := fun w => size8 sz w
  by_cases gg : TG h l i c
  · rw [show decide (Go.Proofs.YtajfcddabkhamaaDoor.a1.Goes h l i c) = true from decide_eq_true gg] at EC
    obtain ⟨en, HEN⟩ : ∃ en, Hid (Go.Proofs.YtajfcddabkhamaaDoor.a4.endT h l i c = en) := ⟨_, rfl⟩
    have HLE : Hid (TL h l i c n ↔ en ≤ n) := by show _ ↔ _; rw [← HEN.out]; exact liesE gg
    rw [HEN.out] at EC
    by_cases gs : sz < 0 ∨ 4611686018427387904 < sz
    · have HE : Hid (q = (ByteArray.empty, 10, al)) := by show _ = _; rw [← HQ.out]; unfold srvA; rw [if_neg (fun x => x gg), if_pos gs]
      rw [show (decide (0 ≤ sz) && decide (sz ≤ 4611686018427387904)) = false by (rcases gs with e | e; rw [decide_eq_false (show ¬ 0 ≤ sz by omega)]; rfl; rw [decide_eq_false (show ¬ sz ≤ 4611686018427387904 by omega), Bool.and_false])] at SC
      clear gs gg
      go_enter Tryd.func5, Tryd.ntmps5
      go_wp2_with fail
      rw [HW.out]
      refine (EC.out _).mono ?_
      rintro e w1 ⟨rfl, hb⟩
      obtain ⟨⟨y0, y1, y2⟩, t0, t1, t2, t3⟩ := SX.out w1 hb
      have B1 : Hid (Below w.heap.size w w1) := over BW.out hb
      clear hb
      go_wp2_with fail
      refine (SC.out _).mono ?_
      rintro e w2 ⟨rfl, hw⟩
      subst hw
      go_wp2
      go_ret2
      exact ⟨by rw [HE.out]; rfl, F, by rw [HE.out]; exact RR.out.later HJ.out B1.out, Goes.of_below B1.out⟩
    · have gs1 : (decide (0 ≤ sz) && decide (sz ≤ 4611686018427387904)) = true := by rw [decide_eq_true (show 0 ≤ sz by omega), decide_eq_true (show sz ≤ 4611686018427387904 by omega)]; rfl
      rw [gs1] at SC
      by_cases gn : n < 0 ∨ sz < n ∨ ¬ TL h l i c n
      · have HE : Hid (q = (ByteArray.empty, 80, al)) := by show _ = _; rw [← HQ.out]; unfold srvA; rw [if_neg (fun x => x gg), if_neg gs, if_pos gn]
        have gn2 : n < 0 ∨ sz < n ∨ n < en := by rcases gn with e | e | e; exact .inl e; exact .inr (.inl e); exact .inr (.inr (by have := mt HLE.out.2 e; omega))
        clear gs gs1 gn gg
        by_cases n1 : n < 0
        · clear gn2
          go_enter Tryd.func5, Tryd.ntmps5
          go_wp2_with fail
          rw [HW.out]
          refine (EC.out _).mono ?_
          rintro e w1 ⟨rfl, hb⟩
          obtain ⟨⟨y0, y1, y2⟩, t0, t1, t2, t3⟩ := SX.out w1 hb
          have B1 : Hid (Below w.heap.size w w1) := over BW.out hb
          clear hb
          go_wp2_with fail
          refine (SC.out _).mono ?_
          rintro e w2 ⟨rfl, hw⟩
          subst hw
          go_wp2
          go_ret2
          exact ⟨by rw [HE.out]; rfl, F, by rw [HE.out]; exact RR.out.later HJ.out B1.out, Goes.of_below B1.out⟩
        · by_cases n2 : sz < n
          · clear gn2
            go_enter Tryd.func5, Tryd.ntmps5
            go_wp2_with fail
            rw [HW.out]
            refine (EC.out _).mono ?_
            rintro e w1 ⟨rfl, hb⟩
            obtain ⟨⟨y0, y1, y2⟩, t0, t1, t2, t3⟩ := SX.out w1 hb
            have B1 : Hid (Below w.heap.size w w1) := over BW.out hb
            clear hb
            go_wp2_with fail
            refine (SC.out _).mono ?_
            rintro e w2 ⟨rfl, hw⟩
            subst hw
            go_wp2
            go_ret2
            exact ⟨by rw [HE.out]; rfl, F, by rw [HE.out]; exact RR.out.later HJ.out B1.out, Goes.of_below B1.out⟩
          · have n3 : n < en := by omega
            clear gn2
            go_enter Tryd.func5, Tryd.ntmps5
            go_wp2_with fail
            rw [HW.out]
            refine (EC.out _).mono ?_
            rintro e w1 ⟨rfl, hb⟩
            obtain ⟨⟨y0, y1, y2⟩, t0, t1, t2, t3⟩ := SX.out w1 hb
            have B1 : Hid (Below w.heap.size w w1) := over BW.out hb
            clear hb
            go_wp2_with fail
            refine (SC.out _).mono ?_
            rintro e w2 ⟨rfl, hw⟩
            subst hw
            go_wp2
            go_ret2
            exact ⟨by rw [HE.out]; rfl, F, by rw [HE.out]; exact RR.out.later HJ.out B1.out, Goes.of_below B1.out⟩
      · have n1 : ¬ n < 0 := fun x => gn (.inl x)
        have n2 : ¬ sz < n := fun x => gn (.inr (.inl x))
        have n3 : ¬ n < en := fun x => gn (.inr (.inr (fun y => by have := HLE.out.1 y; omega)))
        have HE0 : Hid (q = if (row8 wd ask al h l i c).2.1 = 0 then (hashT wd (row8 wd ask al h l i c).1, 0, (row8 wd ask al h l i c).2.2) else (ByteArray.empty, (row8 wd ask al h l i c).2.1, (row8 wd ask al h l i c).2.2)) := by show _ = _; rw [← HQ.out]; unfold srvA; rw [if_neg (fun x => x gg), if_neg gs, if_neg gn]
        clear gs gs1 gn
        obtain ⟨h', l', i', c', rfl, rfl, rfl, rfl, k1, k2, k3, k4, k5, k6⟩ := goes_nat gg
        have AC : Hid (∀ w, J F al w → Calls _ _ _ _ _) := fun w hj => askC RR.out wd sz hwd F al h' l' i' c' k1 k2 k3 k4 k5 k6 w hN hj
        have e8 : row8 wd ask al (h' : Int) (l' : Int) (i' : Int) (c' : Int) = tell (okw wd) ask al (nds (l' * h') (i' * 2 ^ h') c') := by
          unfold row8
          rw [Int.toNat_natCast, Int.toNat_natCast, ← Int.natCast_mul, Int.toNat_natCast, cast_pow, ← Int.natCast_mul, Int.toNat_natCast]
        rw [e8] at HE0
        have hts := tell_size (okw wd) ask (nds (l' * h') (i' * 2 ^ h') c') al
        have HTS : Hid (_ ∧ _ ∧ _) := hts
        have hc9 : c' ≤ 256 := Nat.le_trans k5 (Nat.le_trans (p2le k2) (by decide))
        have HC9 : Hid ((nds (l' * h') (i' * 2 ^ h') c').length ≤ 256) := by show _ ≤ _; rw [nds_len]; exact hc9
        clear e8 hts gg k1 k2 k3 k4 k5 k6 hc9
        obtain ⟨T, HT⟩ : ∃ T, Hid (tell (okw wd) ask al (nds (l' * h') (i' * 2 ^ h') c') = T) := ⟨_, rfl⟩
        rw [HT.out] at AC HE0 HTS
        go_enter Tryd.func5, Tryd.ntmps5
        go_wp2_with fail
        rw [HW.out]
        refine (EC.out _).mono ?_
        rintro e w1 ⟨rfl, hb⟩
        obtain ⟨⟨y0, y1, y2⟩, t0, t1, t2, t3⟩ := SX.out w1 hb
        have B1 : Hid (Below w.heap.size w w1) := over BW.out hb
        clear hb
        go_wp2_with fail
        refine (SC.out _).mono ?_
        rintro e w2 ⟨rfl, hw⟩
        replace hw := hw.symm
        subst hw
        go_wp2_with fail
        refine (AC.out _ (RR.out.later HJ.out B1.out)).mono ?_
        rintro e w3 ⟨⟨v, rfl, ho⟩, F3, hj3, hg3⟩
        have HO : Hid (T.2.1 = 0 → w3.ownsRow w1.heap.size 9 1 v T.1.length (T.1.map Value.string)) := ho
        have J3 : Hid (J F3 T.2.2 w3 ∧ Goes F w F3 w3) := ⟨hj3, (Goes.of_below B1.out).trans hg3⟩
        have z0 := hg3.cell y0 (fun x => Nat.lt_irrefl _ (RR.out.within HJ.out _ x))
        clear ho hj3 hg3 y0 y1 y2 t0 t1 t2 t3
        obtain ⟨tc, HTC⟩ : ∃ tc, Hid (T.2.1 = tc) := ⟨_, rfl⟩
        rw [HTC.out] at HO HE0 ⊢
        by_cases h0 : tc = 0
        · subst h0
          have OW := HO.out rfl
          have HV := row_hash wd T.1 HTS.out.2.2 (Nat.le_trans HTS.out.2.1 HC9.out)
          have HSC : Hid (Calls _ _ _ _ _) := hashesWC wd v T.1 w3 (own_readsT OW) (by have := HTS.out.2.1; have := HC9.out; omega)
          rw [HV] at HSC
          rw [if_pos rfl] at HE0
          clear HV OW
          obtain ⟨S8, HS8⟩ : ∃ s, Hid (hashT wd T.1 = s) := ⟨_, rfl⟩
          rw [HS8.out] at HSC HE0
          go_wp2_with fail
          refine HSC.out.mono ?_
          rintro e w4 ⟨rfl, hb4⟩
          have B4 : Hid (Below w3.heap.size w3 w4) := hb4
          clear hb4
          go_wp2
          go_ret2
          exact ⟨by rw [HE0.out]; rfl, F3, by rw [HE0.out]; exact RR.out.later J3.out.1 B4.out, J3.out.2.trans (Goes.of_below B4.out)⟩
        · have q0 : (tc != 0) = true := by rw [bne_iff_ne]; exact h0
          rw [if_neg h0] at HE0
          clear h0
          go_wp2
          go_ret2
          exact ⟨by rw [HE0.out]; rfl, F3, by rw [HE0.out]; exact J3.out.1, J3.out.2⟩
  · have HE : Hid (q = (ByteArray.empty, 230, al)) := by show _ = _; rw [← HQ.out]; unfold srvA; rw [if_pos gg]
    rw [show decide (Go.Proofs.YtajfcddabkhamaaDoor.a1.Goes h l i c) = false from decide_eq_false gg] at EC
    clear gg
    go_enter Tryd.func5, Tryd.ntmps5
    go_wp2_with fail
    rw [HW.out]
    refine (EC.out _).mono ?_
    rintro e w1 ⟨rfl, hb⟩
    have B1 : Hid (Below w.heap.size w w1) := over BW.out hb
    clear hb
    go_wp2
    go_ret2
    exact ⟨by rw [HE.out]; rfl, F, by rw [HE.out]; exact RR.out.later HJ.out B1.out, Goes.of_below B1.out⟩
end
end Go.Proofs.YtajfcddabkhamaaDoor.v3

namespace Go.Proofs.YtajfcddabkhamaaDoor.v4
open Go.RowKit Go.PlainAid Go.Shelf
open Go.Proofs.YtajfcddabkhamaaDoor.pl Go.Proofs.YtajfcddabkhamaaDoor.pi Go.Proofs.YtajfcddabkhamaaDoor.rf Go.Proofs.YtajfcddabkhamaaDoor.pj Go.Proofs.YtajfcddabkhamaaDoor.ca Go.Proofs.YtajfcddabkhamaaDoor.cb Go.Proofs.YtajfcddabkhamaaDoor.cp Go.Proofs.YtajfcddabkhamaaDoor.cs Go.Proofs.YtajfcddabkhamaaDoor.xc Go.Proofs.YtajfcddabkhamaaDoor.ka Go.Proofs.YtajfcddabkhamaaDoor.kb Go.Proofs.YtajfcddabkhamaaDoor.ga Go.Proofs.YtajfcddabkhamaaDoor.aa Go.Proofs.YtajfcddabkhamaaDoor.ab Go.Proofs.YtajfcddabkhamaaDoor.tb Go.Proofs.YtajfcddabkhamaaDoor.ac Go.Proofs.YtajfcddabkhamaaDoor.bc Go.Proofs.YtajfcddabkhamaaDoor.bd Go.Proofs.YtajfcddabkhamaaDoor.a2 Go.Proofs.YtajfcddabkhamaaDoor.v1 Go.Proofs.YtajfcddabkhamaaDoor.v2 Go.Proofs.YtajfcddabkhamaaDoor.v3 Go.Proofs.YtajfcddabkhamaaDoor.tej Go.Proofs.YtajfcddabkhamaaDoor.hs Go.Proofs.YtajfcddabkhamaaDoor.hd Go.Proofs.YtajfcddabkhamaaDoor.sa Go.Proofs.YtajfcddabkhamaaDoor.sb Go.Proofs.YtajfcddabkhamaaDoor.sc Go.Proofs.YtajfcddabkhamaaDoor.sd Go.Proofs.YtajfcddabkhamaaDoor.se Go.Proofs.YtajfcddabkhamaaDoor.sf
set_option linter.unusedVariables false

theorem hashT_wid (wd : Int) (xs : List ByteArray) : hashT ((wid wd : Nat) : Int) xs = hashT wd xs := by
  unfold hashT
  have : widI ((wid wd : Nat) : Int) = widI wd := by rw [wid_I]; have := widI_in wd; unfold widI at *; split at * <;> (split <;> omega)
  rw [this]
theorem okw_wid (wd : Int) (x : ByteArray) : okw ((wid wd : Nat) : Int) x = okw wd x := by
  unfold okw
  have h1 := wid_le wd
  have h2 := wid_pos wd
  have : wid ((wid wd : Nat) : Int) = wid wd := by
    generalize wid wd = k at *
    unfold wid
    rw [if_neg (by omega)]
    omega
  rw [this]
def Bt (w : World) (rb : Nat) (h l i c : Int) : Prop := w.cell? ⟨rb, 0, none⟩ = some (.int .i64 h) ∧ w.cell? ⟨rb, 1, none⟩ = some (.int .i64 l) ∧ w.cell? ⟨rb, 2, none⟩ = some (.int .i64 i) ∧ w.cell? ⟨rb, 3, none⟩ = some (.int .i64 c)
theorem Bt.map {w w' : World} {rb : Nat} {h l i c : Int} (x : Bt w rb h l i c) (k : ∀ (o : Nat) (v : Value), w.cell? ⟨rb, o, none⟩ = some v → w'.cell? ⟨rb, o, none⟩ = some v) : Bt w' rb h l i c := ⟨k _ _ x.1, k _ _ x.2.1, k _ _ x.2.2.1, k _ _ x.2.2.2⟩
theorem Bt.later {w w' : World} {rb : Nat} {h l i c : Int} (x : Bt w rb h l i c) (hb : Below w.heap.size w w') : Bt w' rb h l i c := x.map fun o v hv => (hb.cell (World.block_lt_of_cell? _ _ hv)).trans hv
section
variable {g : Nat} {fb lb : Array Value} {ask : Nat → Nat × Nat → ByteArray × Int} {J : (Nat → Prop) → List (Nat × Nat) → World → Prop} {N : Nat} {D : Nat → Prop}
structure Hb (R : Rd g fb lb ask J N D) (wd : Int) (F0 : Nat → Prop) (w0 : World) (l0 L : List (Nat × Nat)) (h l i c : Int) (rb base : Nat) (k : Nat) (u : Value) (wr : World) (F : Nat → Prop) (al : List (Nat × Nat)) (acc : List ByteArray) : Prop where
  j : J F al wr
  go : Goes F0 w0 F wr
  bt : Bt wr rb h l i c
  out : ¬ F rb
  lt : rb < base
  own : wr.ownsRow base 9 1 u k (acc.map Value.string)
  bes : Beside F u
  base_le : w0.heap.size ≤ base ∧ base ≤ wr.heap.size
  bx : ∀ b, D b → b < w0.heap.size
  kk : k ≤ L.length ∧ acc.length = k ∧ al.length = l0.length + k
  eq : tell (okw wd) ask l0 L = (acc ++ (tell (okw wd) ask al (L.drop k)).1, (tell (okw wd) ask al (L.drop k)).2)
theorem Hb.later {R : Rd g fb lb ask J N D} {wd : Int} {F0 : Nat → Prop} {w0 : World} {l0 L : List (Nat × Nat)} {h l i c : Int} {rb base : Nat} {k : Nat} {u : Value} {wr w' : World} {F : Nat → Prop} {al : List (Nat × Nat)} {acc : List ByteArray} (x : Hb R wd F0 w0 l0 L h l i c rb base k u wr F al acc) (hb : Below wr.heap.size wr w') : Hb R wd F0 w0 l0 L h l i c rb base k u w' F al acc :=
  ⟨R.later x.j hb, x.go.trans (Goes.of_below hb), x.bt.later hb, x.out, x.lt, own_later x.own hb, x.bes, ⟨x.base_le.1, Nat.le_trans x.base_le.2 hb.size⟩, x.bx, x.kk, x.eq⟩
end
set_option maxRecDepth 100000 in
set_option maxHeartbeats 6400000 in
theorem serveD_no (s : Src) (sb : Nat) (lv : Value) (base : Nat) (hcd : i64 s.code) (n : Int) (hn9 : i64 n) (F : Nat → Prop) (al : List (Nat × Nat)) (h l i c : Int) (zh : i64 h) (zl : i64 l) (zi : i64 i) (zc : i64 c) (w : World) (hN : al.length + 256 ≤ 4294967296) (hJ : SJ s sb lv base F al w) (gg : ¬ TG h l i c) :
    Calls Tryd.prog 7 #[.pointer (some ⟨sb, 0, none⟩), .agg #[.int .i64 h, .int .i64 l, .int .i64 i, .int .i64 c], .int .i64 n] w fun e w' =>
      e = .returned (.tuple #[.string (srvA s.wd (askS s) s.sz n h l i c al).1, .int .i64 (srvA s.wd (askS s) s.sz n h l i c al).2.1]) ∧ ∃ F', SJ s sb lv base F' (srvA s.wd (askS s) s.sz n h l i c al).2.2 w' ∧ Goes F w F' w' := by
  have RR : Hid (Rd _ _ _ _ _ _ _) := srcR s sb lv base hcd
  have HJ : Hid (SJ s sb lv base F al w) := hJ
  have GC : Hid (∀ w, Calls _ _ _ _ _) := fun w => Go.Proofs.YtajfcddabkhamaaDoor.a5.goesC h l i c zh zl zi zc w
  obtain ⟨q, HQ⟩ : ∃ q, Hid (srvA s.wd (askS s) s.sz n h l i c al = q) := ⟨_, rfl⟩
  rw [HQ.out]
  obtain ⟨k0, k1⟩ := SJ.cells hJ
  obtain ⟨W, HW⟩ : ∃ W, Hid (w.alloc (.cells #[.int .i64 h, .int .i64 l, .int .i64 i, .int .i64 c] 27) = W) := ⟨_, rfl⟩
  have BW : Hid (Below w.heap.size w W) := by show Below _ _ _; rw [← HW.out]; exact (Below.refl _ _).alloc (Nat.le_refl _) _
  have BT : Hid (Bt W w.heap.size h l i c) := by show Bt _ _ _ _ _ _; rw [← HW.out]; exact box4 w _ _ _ _ _ _ (Below.refl _ _)
  obtain ⟨wd, HWD⟩ : ∃ x, Hid (s.wd = x) := ⟨_, rfl⟩
  obtain ⟨sz, HSZ⟩ : ∃ x, Hid (s.sz = x) := ⟨_, rfl⟩
  rw [HWD.out] at k0 HQ
  rw [HSZ.out] at k1 HQ
  have K0 : Hid (∀ w', Below W.heap.size W w' → w'.cell? ⟨sb, 0, none⟩ = some (.int .i64 wd) ∧ w'.cell? ⟨sb, 1, none⟩ = some (.int .i64 sz)) := fun w' k => by
    have b := over BW.out k
    exact ⟨(b.cell (World.block_lt_of_cell? _ _ k0)).trans k0, (b.cell (World.block_lt_of_cell? _ _ k1)).trans k1⟩
  clear k0 k1 hJ
  have HE : Hid (q = (ByteArray.empty, 230, al)) := by show _ = _; rw [← HQ.out]; unfold srvA; rw [if_pos gg]
  rw [show decide (Go.Proofs.YtajfcddabkhamaaDoor.a1.Goes h l i c) = false from decide_eq_false gg] at GC
  clear gg
  go_enter Tryd.func7, Tryd.ntmps7
  go_wp2_with fail
  rw [HW.out]
  obtain ⟨t0, t1, t2, t3⟩ := BT.out
  go_wp2_with fail
  refine (GC.out _).mono ?_
  rintro e w1 ⟨rfl, hb⟩
  have B1 : Hid (Below w.heap.size w w1) := over BW.out hb
  clear hb
  go_wp2
  go_ret2
  exact ⟨by rw [HE.out]; rfl, F, by rw [HE.out]; exact RR.out.later HJ.out B1.out, Goes.of_below B1.out⟩
set_option maxRecDepth 100000 in
set_option maxHeartbeats 6400000 in
theorem serveD_s1 (s : Src) (sb : Nat) (lv : Value) (base : Nat) (hcd : i64 s.code) (n : Int) (hn9 : i64 n) (F : Nat → Prop) (al : List (Nat × Nat)) (h l i c : Int) (zh : i64 h) (zl : i64 l) (zi : i64 i) (zc : i64 c) (w : World) (hN : al.length + 256 ≤ 4294967296) (hJ : SJ s sb lv base F al w) (gg : TG h l i c) (gs : s.sz < 0) :
    Calls Tryd.prog 7 #[.pointer (some ⟨sb, 0, none⟩), .agg #[.int .i64 h, .int .i64 l, .int .i64 i, .int .i64 c], .int .i64 n] w fun e w' =>
      e = .returned (.tuple #[.string (srvA s.wd (askS s) s.sz n h l i c al).1, .int .i64 (srvA s.wd (askS s) s.sz n h l i c al).2.1]) ∧ ∃ F', SJ s sb lv base F' (srvA s.wd (askS s) s.sz n h l i c al).2.2 w' ∧ Goes F w F' w' := by
  have RR : Hid (Rd _ _ _ _ _ _ _) := srcR s sb lv base hcd
  have HJ : Hid (SJ s sb lv base F al w) := hJ
  have GC : Hid (∀ w, Calls _ _ _ _ _) := fun w => Go.Proofs.YtajfcddabkhamaaDoor.a5.goesC h l i c zh zl zi zc w
  obtain ⟨q, HQ⟩ : ∃ q, Hid (srvA s.wd (askS s) s.sz n h l i c al = q) := ⟨_, rfl⟩
  rw [HQ.out]
  obtain ⟨k0, k1⟩ := SJ.cells hJ
  obtain ⟨W, HW⟩ : ∃ W, Hid (w.alloc (.cells #[.int .i64 h, .int .i64 l, .int .i64 i, .int .i64 c] 27) = W) := ⟨_, rfl⟩
  have BW : Hid (Below w.heap.size w W) := by show Below _ _ _; rw [← HW.out]; exact (Below.refl _ _).alloc (Nat.le_refl _) _
  have BT : Hid (Bt W w.heap.size h l i c) := by show Bt _ _ _ _ _ _; rw [← HW.out]; exact box4 w _ _ _ _ _ _ (Below.refl _ _)
  obtain ⟨wd, HWD⟩ : ∃ x, Hid (s.wd = x) := ⟨_, rfl⟩
  obtain ⟨sz, HSZ⟩ : ∃ x, Hid (s.sz = x) := ⟨_, rfl⟩
  rw [HWD.out] at k0 HQ
  rw [HSZ.out] at k1 HQ
  have K0 : Hid (∀ w', Below W.heap.size W w' → w'.cell? ⟨sb, 0, none⟩ = some (.int .i64 wd) ∧ w'.cell? ⟨sb, 1, none⟩ = some (.int .i64 sz)) := fun w' k => by
    have b := over BW.out k
    exact ⟨(b.cell (World.block_lt_of_cell? _ _ k0)).trans k0, (b.cell (World.block_lt_of_cell? _ _ k1)).trans k1⟩
  clear k0 k1 hJ
  rw [HSZ.out] at gs
  have HE : Hid (q = (ByteArray.empty, 10, al)) := by show _ = _; rw [← HQ.out]; unfold srvA; rw [if_neg (fun x => x gg), if_pos (.inl gs)]
  rw [show decide (Go.Proofs.YtajfcddabkhamaaDoor.a1.Goes h l i c) = true from decide_eq_true gg] at GC
  clear gg
  go_enter Tryd.func7, Tryd.ntmps7
  go_wp2_with fail
  rw [HW.out]
  obtain ⟨t0, t1, t2, t3⟩ := BT.out
  go_wp2_with fail
  refine (GC.out _).mono ?_
  rintro e w1 ⟨rfl, hb⟩
  obtain ⟨y0, y1⟩ := K0.out w1 hb
  have B1 : Hid (Below w.heap.size w w1) := over BW.out hb
  clear hb
  go_wp2
  go_ret2
  exact ⟨by rw [HE.out]; rfl, F, by rw [HE.out]; exact RR.out.later HJ.out B1.out, Goes.of_below B1.out⟩
set_option maxRecDepth 100000 in
set_option maxHeartbeats 6400000 in
theorem serveD_s2 (s : Src) (sb : Nat) (lv : Value) (base : Nat) (hcd : i64 s.code) (n : Int) (hn9 : i64 n) (F : Nat → Prop) (al : List (Nat × Nat)) (h l i c : Int) (zh : i64 h) (zl : i64 l) (zi : i64 i) (zc : i64 c) (w : World) (hN : al.length + 256 ≤ 4294967296) (hJ : SJ s sb lv base F al w) (gg : TG h l i c) (gs0 : ¬ s.sz < 0) (gs : 4611686018427387904 < s.sz) :
    Calls Tryd.prog 7 #[.pointer (some ⟨sb, 0, none⟩), .agg #[.int .i64 h, .int .i64 l, .int .i64 i, .int .i64 c], .int .i64 n] w fun e w' =>
      e = .returned (.tuple #[.string (srvA s.wd (askS s) s.sz n h l i c al).1, .int .i64 (srvA s.wd (askS s) s.sz n h l i c al).2.1]) ∧ ∃ F', SJ s sb lv base F' (srvA s.wd (askS s) s.sz n h l i c al).2.2 w' ∧ Goes F w F' w' := by
  have RR : Hid (Rd _ _ _ _ _ _ _) := srcR s sb lv base hcd
  have HJ : Hid (SJ s sb lv base F al w) := hJ
  have GC : Hid (∀ w, Calls _ _ _ _ _) := fun w => Go.Proofs.YtajfcddabkhamaaDoor.a5.goesC h l i c zh zl zi zc w
  obtain ⟨q, HQ⟩ : ∃ q, Hid (srvA s.wd (askS s) s.sz n h l i c al = q) := ⟨_, rfl⟩
  rw [HQ.out]
  obtain ⟨k0, k1⟩ := SJ.cells hJ
  obtain ⟨W, HW⟩ : ∃ W, Hid (w.alloc (.cells #[.int .i64 h, .int .i64 l, .int .i64 i, .int .i64 c] 27) = W) := ⟨_, rfl⟩
  have BW : Hid (Below w.heap.size w W) := by show Below _ _ _; rw [← HW.out]; exact (Below.refl _ _).alloc (Nat.le_refl _) _
  have BT : Hid (Bt W w.heap.size h l i c) := by show Bt _ _ _ _ _ _; rw [← HW.out]; exact box4 w _ _ _ _ _ _ (Below.refl _ _)
  obtain ⟨wd, HWD⟩ : ∃ x, Hid (s.wd = x) := ⟨_, rfl⟩
  obtain ⟨sz, HSZ⟩ : ∃ x, Hid (s.sz = x) := ⟨_, rfl⟩
  rw [HWD.out] at k0 HQ
  rw [HSZ.out] at k1 HQ
  have K0 : Hid (∀ w', Below W.heap.size W w' → w'.cell? ⟨sb, 0, none⟩ = some (.int .i64 wd) ∧ w'.cell? ⟨sb, 1, none⟩ = some (.int .i64 sz)) := fun w' k => by
    have b := over BW.out k
    exact ⟨(b.cell (World.block_lt_of_cell? _ _ k0)).trans k0, (b.cell (World.block_lt_of_cell? _ _ k1)).trans k1⟩
  clear k0 k1 hJ
  rw [HSZ.out] at gs gs0
  have HE : Hid (q = (ByteArray.empty, 10, al)) := by show _ = _; rw [← HQ.out]; unfold srvA; rw [if_neg (fun x => x gg), if_pos (.inr gs)]
  rw [show decide (Go.Proofs.YtajfcddabkhamaaDoor.a1.Goes h l i c) = true from decide_eq_true gg] at GC
  clear gg
  go_enter Tryd.func7, Tryd.ntmps7
  go_wp2_with fail
  rw [HW.out]
  obtain ⟨t0, t1, t2, t3⟩ := BT.out
  go_wp2_with fail
  refine (GC.out _).mono ?_
  rintro e w1 ⟨rfl, hb⟩
  obtain ⟨y0, y1⟩ := K0.out w1 hb
  have B1 : Hid (Below w.heap.size w w1) := over BW.out hb
  clear hb
  go_wp2
  go_ret2
  exact ⟨by rw [HE.out]; rfl, F, by rw [HE.out]; exact RR.out.later HJ.out B1.out, Goes.of_below B1.out⟩
end Go.Proofs.YtajfcddabkhamaaDoor.v4
