import Derived.Test.YtjkkijeamcihiaaDa
namespace Go.Proofs.Ytjkkijeamcihiaa.db
open Go.RowKit Go.PlainAid Go.Maps
open Go.Proofs.Ytjkkijeamcihiaa.cp Go.Proofs.Ytjkkijeamcihiaa.kp Go.Proofs.Ytjkkijeamcihiaa.ka Go.Proofs.Ytjkkijeamcihiaa.bn Go.Proofs.Ytjkkijeamcihiaa.ra Go.Proofs.Ytjkkijeamcihiaa.rc Go.Proofs.Ytjkkijeamcihiaa.re Go.Proofs.Ytjkkijeamcihiaa.rg Go.Proofs.Ytjkkijeamcihiaa.sa Go.Proofs.Ytjkkijeamcihiaa.lz Go.Proofs.Ytjkkijeamcihiaa.lc Go.Proofs.Ytjkkijeamcihiaa.da
open Go.Proofs.Ytjkkijeamcihiaa.rl (below_grownBy)
set_option linter.unusedVariables false
set_option linter.unusedSimpArgs false
theorem own_none {w : World} {B t z n : Nat} {v : Value} {xs : List Value} (o : w.ownsRow B t z v n xs) (h : v.ownBlock = none) : v = .slice none 0 0 := by
  rcases o.2 with ⟨rfl, rfl⟩ | ⟨g', cap, cur', rfl, _⟩
  · rfl
  · cases h
theorem wpList_append_texts (w : World) {ops : Array Oper} {rest : List Oper} {o : Oper} {a : Act} {Q : Exit → Act → World → Prop} (hgd : o.guard = none) (s x : Operand)
    (ho : o.op = .call { callee := .builtin .append, args := #[s, x], argTypes := #[30, 30] }) (base : Nat) (v : Value) (l1 : List ByteArray) (hs : a.eval s = v) (hown : w.ownsRow base 9 1 v l1.length (l1.map Value.string))
    (x' : Value) (l2 : List ByteArray) (hx : a.eval x = x') (hr : ReadsT w x' l2) (hn : x'.ownBlock = none → x' = .slice none 0 0) (h63 : l1.length + l2.length ≤ maxLen) (hb : (l1.length + l2.length) * 16 ≤ 140737488355328) (hbase : base ≤ w.heap.size)
    (h : ∀ v' w', w'.ownsRow base 9 1 v' (l1 ++ l2).length ((l1 ++ l2).map Value.string) → w.grownBy w' v.ownBlock → (v'.ownBlock = v.ownBlock ∨ v'.ownBlock = some w.heap.size) → wpList Try.prog ops Q rest (a.put o.dst v') w') : wpList Try.prog ops Q (o :: rest) a w := by
  obtain ⟨i, hi, hz0, hz1, hz2⟩ := info_parts hi9
  obtain ⟨xa, xc, rfl, hcap, hc⟩ := hr
  cases xa with
  | none =>
    have e := hn rfl
    injection e with _ e1 e2
    have e3 : l2 = [] := List.length_eq_zero_iff.1 e1
    subst e3
    rw [List.append_nil] at h
    refine wpList_plain hgd fun K hK => ?_
    have hrun := run_append_owned_none (P := Try.prog) w base 30 o.type 9 i 1 Try.underlying30 hi v l1.length _ hown
    rw [show (.slice none ([] : List ByteArray).length xc : Value) = .slice none 0 0 by rw [e2]; rfl] at hx
    unfold Oper.wp execOp
    simp only [ho, resolve, invoke, builtin, Sem.run_bind, Sem.run_pure, Result.andThen_ok, List.map_toArray, List.map_cons, List.map_nil, hs, hx, hrun]
    exact hK _ _ (h v w hown ⟨rfl, rfl, rfl, Nat.le_refl _, fun _ _ _ => rfl⟩ (.inl rfl))
  | some ad =>
    refine wpList_append_own_at w hgd s x 30 ho base 9 i _ 1 16 Try.underlying30 hi hz0 hz1 hz2 rfl (by decide) v l1.length (l1.map Value.string) hs hown ad l2.length xc (l2.map Value.string) hx (by simp) (fun j u hu => ?_) (fun u hu => ?_) h63 hb hbase (fun v' w' g1 g2 g3 g4 => h v' w' (by rw [List.length_append, List.map_append]; exact g1) g2 g4)
    · have hj : j < l2.length := by have := (List.getElem?_eq_some_iff.1 hu).1; simpa using this
      rcases hc with h0 | ⟨b, off, e, hcell⟩
      · omega
      · obtain rfl := Option.some.inj e
        rw [Addr.add_mid, hcell j hj, ← hu, List.getElem?_map, List.getElem?_eq_getElem hj, List.getD_eq_getElem?_getD, List.getElem?_eq_getElem hj]
        rfl
    · obtain ⟨y, _, rfl⟩ := List.mem_map.1 hu
      rfl
-- what a call of the document's leaves
def Rx (g : Nat) (kv vv : Value) (s s' : St) (w w' : World) : Prop := ∃ kx vx, Dc g kx vx s' w' ∧ Kp (fun k => k = g) w w' ∧ ((kx = kv ∧ vx = vv ∧ s'.l = s.l) ∨ (Nw w kx ∧ Nw w vx))
section
variable {g : Nat} {kv vv : Value} {s : St} {w w' : World}
theorem Rx.refl (h : Dc g kv vv s w) : Rx g kv vv s s w w := ⟨kv, vv, h, Kp.refl _ _, .inl ⟨rfl, rfl, rfl⟩⟩
theorem Rx.trans {s' s'' : St} {w1 w2 : World} (x : Rx g kv vv s s' w w1) (y : ∀ kx vx, Dc g kx vx s' w1 → Rx g kx vx s' s'' w1 w2) : Rx g kv vv s s'' w w2 := by
  obtain ⟨kx, vx, h1, h2, h3⟩ := x
  obtain ⟨ky, vy, g1, g2, g3⟩ := y kx vx h1
  refine ⟨ky, vy, g1, h2.trans g2, ?_⟩
  rcases g3 with ⟨rfl, rfl, e⟩ | ⟨n1, n2⟩
  · rcases h3 with ⟨rfl, rfl, e'⟩ | ⟨n1, n2⟩
    · exact .inl ⟨rfl, rfl, e.trans e'⟩
    · exact .inr ⟨n1, n2⟩
  · exact .inr ⟨fun k hk => Nat.le_trans h2.size (n1 k hk), fun k hk => Nat.le_trans h2.size (n2 k hk)⟩
set_option maxHeartbeats 1600000 in
theorem newestC (k : K) (v : V) (h : Dc g kv vv s w) (hl : s.l.length ≤ 4099) :
    Calls Try.prog 61 #[pt ⟨g, 0, none⟩, .string k, .string v] w fun e w' => e = .returned (.tuple #[]) ∧ Rx g kv vv s { s with l := (k, v) :: s.l } w w' := by
  have hgl := h.lt
  obtain ⟨W1, HW1⟩ : ∃ W, Hid (w.alloc (.cells #[.string k] 9) = W) := ⟨_, rfl⟩
  obtain ⟨W, HW⟩ : ∃ W', Hid (W1.alloc (.cells #[.string v] 9) = W') := ⟨_, rfl⟩
  have z1 : W1.heap.size = w.heap.size + 1 := by rw [← HW1.out]; exact Array.size_push _
  have z2 : W.heap.size = w.heap.size + 2 := by rw [← HW.out]; exact (Array.size_push _).trans (by rw [z1])
  have B1 : Below w.heap.size w W1 := by rw [← HW1.out]; exact (Below.refl _ _).alloc (Nat.le_refl _) _
  have B2 : Below w.heap.size w W := by rw [← HW.out]; exact B1.alloc (by rw [z1]; omega) _
  have OK : W.ownsRow w.heap.size 9 1 (.slice (some ⟨w.heap.size, 0, none⟩) 1 1) [k].length ([k].map Value.string) := by
    rw [← HW.out]
    refine World.ownsRow.alloc ?_ _
    rw [← HW1.out]
    exact World.ownsRow_lit w #[.string k] 1 (Nat.le_refl _) (by unfold maxLen; omega) rfl
  have OV : W.ownsRow w.heap.size 9 1 (.slice (some ⟨w.heap.size + 1, 0, none⟩) 1 1) [v].length ([v].map Value.string) := by
    rw [← HW.out, ← z1]
    exact World.ownsRow_lit W1 #[.string v] 1 (by rw [z1]; omega) (by unfold maxLen; omega) rfl
  have HD : Hid (∀ w', Below w.heap.size w w' → Dc g kv vv s w') := fun w' hb => h.later hb
  have HOK : Hid (World.ownsRow _ _ _ _ _ _ _) := OK
  have HOV : Hid (World.ownsRow _ _ _ _ _ _ _) := OV
  have HB2 : Hid (Below w.heap.size w W) := B2
  have c1 : W.cell? ⟨g, 1, none⟩ = some kv := (h.later B2).c1
  have hkl : Hid ((keys s.l).length ≤ 4099 ∧ (vals s.l).length ≤ 4099) := by constructor <;> simp [keys, vals, hl]
  have HKN : Hid ((kv.ownBlock = none → kv = .slice none 0 0) ∧ (vv.ownBlock = none → vv = .slice none 0 0)) := ⟨h.kn, h.vn⟩
  have HSZ : Hid (w.heap.size ≤ W.heap.size) := B2.size
  have HZ : Hid (W.heap.size = w.heap.size + 2) := z2
  have HZ1 : Hid (W1.heap.size = w.heap.size + 1) := z1
  have HL : Hid (s.l.length ≤ 4099 ∧ g < w.heap.size) := ⟨hl, hgl⟩
  clear h OK OV B1 B2 z1 z2 hl hgl
  unfold pt
  go_enter Try.func61, Try.ntmps61
  go_upto_region 1 with fail
  rw [HW1.out]
  go_upto_region 2 with fail
  rw [HW.out, HZ1.out]
  go_upto_region 3 with (first | (at_builtin; refine wpList_append_texts _ rfl _ _ rfl w.heap.size _ [k] rfl HOK.out kv (keys s.l) rfl (HD.out _ HB2.out).ks HKN.out.1 (by have := hkl.out.1; unfold maxLen; simp only [List.length_cons, List.length_nil]; omega) (by have := hkl.out.1; simp only [List.length_cons, List.length_nil]; omega) HSZ.out ?_; intro k1 w3 ho hg hob; have HO3 : Hid (World.ownsRow _ _ _ _ _ _ _) := ho; have HG3 : Hid (World.grownBy _ _ _) := hg; have HB3 : Hid (k1.ownBlock = some w.heap.size ∨ k1.ownBlock = some W.heap.size) := hob; clear ho hg hob) | go_in)
  have B3 : Hid (Below w.heap.size w w3) := below_grownBy HB2.out HG3.out (Nat.le_refl _) (fun j hj => (HOK.out.lt j hj).1)
  have HOV3 : Hid (w3.ownsRow w.heap.size 9 1 (.slice (some ⟨w.heap.size + 1, 0, none⟩) 1 1) [v].length ([v].map Value.string)) := HOV.out.kept HG3.out (.inr (by intro e; have := Option.some.inj e; have : w.heap.size + 1 = w.heap.size := this; omega))
  have c2 : w3.cell? ⟨g, 2, none⟩ = some vv := (HD.out _ B3.out).c2
  have HS3 : Hid (w.heap.size ≤ w3.heap.size) := B3.out.size
  clear c1
  go_upto_region 4 with (first | (at_builtin; refine wpList_append_texts _ rfl _ _ rfl w.heap.size _ [v] rfl HOV3.out vv (vals s.l) rfl (HD.out _ B3.out).vs HKN.out.2 (by have := hkl.out.2; unfold maxLen; simp only [List.length_cons, List.length_nil]; omega) (by have := hkl.out.2; simp only [List.length_cons, List.length_nil]; omega) HS3.out ?_; intro v1 w4 ho hg hob; have HO4 : Hid (World.ownsRow _ _ _ _ _ _ _) := ho; have HG4 : Hid (World.grownBy _ _ _) := hg; clear ho hg hob) | go_in)
  clear c2
  have B4 : Hid (Below w.heap.size w w4) := below_grownBy B3.out HG4.out (Nat.le_refl _) (fun j hj => (HOV3.out.lt j hj).1)
  have HOK4 : Hid (w4.ownsRow w.heap.size 9 1 k1 ([k] ++ keys s.l).length (([k] ++ keys s.l).map Value.string)) := HO3.out.kept HG4.out (.inr (by
    intro e
    have e : k1.ownBlock = some (w.heap.size + 1) := e
    rcases HB3.out with h1 | h1
    · rw [h1] at e; have := Option.some.inj e; omega
    · rw [h1, HZ.out] at e; have := Option.some.inj e; omega))
  have D4 := HD.out _ B4.out
  have g1 : w4.cell? ⟨g, 1, none⟩ = some kv := D4.c1
  have g2 : w4.cell? ⟨g, 2, none⟩ = some vv := D4.c2
  have f1 := D4.fz 1
  have f2 := D4.fz 2
  obtain ⟨ka, kc, hk1⟩ := own_formS HOK4.out
  obtain ⟨va, vc, hv1⟩ := own_formS HO4.out
  have END : Hid (Rx g kv vv s { s with l := (k, v) :: s.l } w ((w4.setCell ⟨g, 1, none⟩ k1).setCell ⟨g, 2, none⟩ v1)) := by
    have n1 : Nw w k1 := fun j hj => (HOK4.out.lt j hj).1
    have n2 : Nw w v1 := fun j hj => (HO4.out.lt j hj).1
    refine ⟨k1, v1, Dc.lists D4 (own_readsT HOK4.out) (own_readsT HO4.out) (own_none HOK4.out) (own_none HO4.out) (fun e => ?_) (fun e => ?_) ?_, ?_, .inr ⟨n1, n2⟩⟩
    · have := n1 g e
      have := HL.out.2
      omega
    · have := n2 g e
      have := HL.out.2
      omega
    · show s.l.length + 1 ≤ 4100
      have := HL.out.1
      omega
    · exact Kp.trans (A := fun k => k = g) (Kp.trans (A := fun k => k = g) (Kp.of_below B4.out) (Kp.setCell _ _ _ _ rfl)) (Kp.setCell _ _ _ _ rfl)
  rw [hk1, hv1] at END
  subst hk1 hv1
  clear D4
  go_wp2
  go_end0
  exact ⟨rfl, END.out⟩
end
end Go.Proofs.Ytjkkijeamcihiaa.db
