import Derived.Test.YthblljfkodbbeabDoorZh
namespace Go.Proofs.YthblljfkodbbeabDoor.zi
open Go.RowKit Go.PlainAid
open Go.Proofs.YthblljfkodbbeabDoor.ta Go.Proofs.YthblljfkodbbeabDoor.tb Go.Proofs.YthblljfkodbbeabDoor.tc Go.Proofs.YthblljfkodbbeabDoor.te Go.Proofs.YthblljfkodbbeabDoor.tj Go.Proofs.YthblljfkodbbeabDoor.va Go.Proofs.YthblljfkodbbeabDoor.vb Go.Proofs.YthblljfkodbbeabDoor.vc Go.Proofs.YthblljfkodbbeabDoor.ya Go.Proofs.YthblljfkodbbeabDoor.yb Go.Proofs.YthblljfkodbbeabDoor.za Go.Proofs.YthblljfkodbbeabDoor.zb Go.Proofs.YthblljfkodbbeabDoor.zc Go.Proofs.YthblljfkodbbeabDoor.ze Go.Proofs.YthblljfkodbbeabDoor.zf Go.Proofs.YthblljfkodbbeabDoor.zg Go.Proofs.YthblljfkodbbeabDoor.zd Go.Proofs.YthblljfkodbbeabDoor.zh
set_option linter.unusedVariables false

theorem row4 {w w1 w2 w3 w4 w6 : World} {a b c d : Value} {Y Z : List ByteArray} (b1 : Below w.heap.size w w1) (ta : Texts w1 w.heap.size a Y) (b2 : Below w1.heap.size w1 w2) (tb : Texts w2 w1.heap.size b Y)
    (b3 : Below w2.heap.size w2 w3) (tc : Texts w3 w2.heap.size c Z) (b4 : Below w3.heap.size w3 w4) (td : Texts w4 w3.heap.size d Z) (b6 : Below w4.heap.size w4 w6) :
    ∃ gs, Row (w6.alloc (.cells #[a, b, c, d] 29)) w.heap.size w6.heap.size [a, b, c, d] gs [Y, Y, Z, Z] := by
  have s1 := b1.size
  have s2 := b2.size
  have s3 := b3.size
  have s4 := b4.size
  have s6 := b6.size
  have key : ∀ (i : Nat) (v : Value) (g : Nat), [a, b, c, d][i]? = some v → v.ownBlock = some g → (i = 0 ∧ w.heap.size ≤ g ∧ g < w1.heap.size) ∨ (i = 1 ∧ w1.heap.size ≤ g ∧ g < w2.heap.size) ∨ (i = 2 ∧ w2.heap.size ≤ g ∧ g < w3.heap.size) ∨ (i = 3 ∧ w3.heap.size ≤ g ∧ g < w4.heap.size) := by
    intro i v g h1 h2
    match i, h1 with
    | 0, h1 => obtain rfl : a = v := by simpa using h1
               exact .inl ⟨rfl, Texts.lt ta h2⟩
    | 1, h1 => obtain rfl : b = v := by simpa using h1
               exact .inr (.inl ⟨rfl, Texts.lt tb h2⟩)
    | 2, h1 => obtain rfl : c = v := by simpa using h1
               exact .inr (.inr (.inl ⟨rfl, Texts.lt tc h2⟩))
    | 3, h1 => obtain rfl : d = v := by simpa using h1
               exact .inr (.inr (.inr ⟨rfl, Texts.lt td h2⟩))
    | n + 4, h1 => simp at h1
  have q6 : Below w6.heap.size w6 (w6.alloc (.cells #[a, b, c, d] 29)) := (Below.refl _ _).alloc (Nat.le_refl _) _
  refine Row.of rfl (by simp) (by simp; omega) ?_ ?_ ?_ ?_
  · intro i v hv
    rw [World.cell?_alloc_at _ _ _ _ rfl]
    simpa using hv
  · intro i v xs h1 h2
    match i, h1, h2 with
    | 0, h1, h2 => obtain rfl : a = v := by simpa using h1
                   obtain rfl : Y = xs := by simpa using h2
                   exact ((((ta.later b2).later b3).later b4).later b6).later q6
    | 1, h1, h2 => obtain rfl : b = v := by simpa using h1
                   obtain rfl : Y = xs := by simpa using h2
                   exact Texts.down ((((tb.later b3).later b4).later b6).later q6) (by omega)
    | 2, h1, h2 => obtain rfl : c = v := by simpa using h1
                   obtain rfl : Z = xs := by simpa using h2
                   exact Texts.down (((tc.later b4).later b6).later q6) (by omega)
    | 3, h1, h2 => obtain rfl : d = v := by simpa using h1
                   obtain rfl : Z = xs := by simpa using h2
                   exact Texts.down ((td.later b6).later q6) (by omega)
    | n + 4, h1, h2 => simp at h1
  · intro i v hv e
    have := key i v _ hv e
    omega
  · intro i j v u g hij h1 h2 h3 h4
    have := key i v g h1 h3
    have := key j u g h2 h4
    omega
set_option maxHeartbeats 6400000 in
set_option maxRecDepth 100000 in
theorem asked2 (s line : ByteArray) (hs : s.size ≤ 1048576) (hl : line.size ≤ 1048576) (w : World) :
    Calls Tryd.prog 18 #[.string s, .string line] w fun e w' => e = .returned (.bool true) ∧ Below w.heap.size w w' := by
  obtain ⟨Y, ec, hY, l1, l2⟩ := two_lines s hs
  obtain ⟨Z, fc, hZ, m1, m2⟩ := two_words line hl
  have L1 : Hid (∀ w, Calls _ _ _ _ _) := l1
  have L2 : Hid (∀ w, Calls _ _ _ _ _) := l2
  have M1 : Hid (∀ w, Calls _ _ _ _ _) := m1
  have M2 : Hid (∀ w, Calls _ _ _ _ _) := m2
  have HYL : Hid (Y.length ≤ 1048577) := hY
  have HZL : Hid (Z.length ≤ 1048577) := hZ
  clear l1 l2 m1 m2 hY hZ
  go_enter Tryd.func18, Tryd.ntmps18
  go_wp2_with fail
  refine (L1.out _).mono ?_
  rintro e w1 ⟨⟨a, rfl, ta⟩, hb⟩
  obtain ⟨aa, na, rfl⟩ := texts_form ta
  have TA : Hid (Texts w1 w.heap.size (Value.slice aa na na) Y) := ta
  have B1 : Hid (Below w.heap.size w w1) := hb
  clear hb ta
  go_wp2_with fail
  refine (L1.out _).mono ?_
  rintro e w2 ⟨⟨b, rfl, ta⟩, hb⟩
  obtain ⟨ab, nb, rfl⟩ := texts_form ta
  have TB : Hid (Texts w2 w1.heap.size (Value.slice ab nb nb) Y) := ta
  have B2 : Hid (Below w1.heap.size w1 w2) := hb
  clear hb ta
  go_wp2_with fail
  refine (M1.out _).mono ?_
  rintro e w3 ⟨⟨c, rfl, ta⟩, hb⟩
  obtain ⟨ac, nc, rfl⟩ := texts_form ta
  have TC : Hid (Texts w3 w2.heap.size (Value.slice ac nc nc) Z) := ta
  have B3 : Hid (Below w2.heap.size w2 w3) := hb
  clear hb ta
  go_wp2_with fail
  refine (M1.out _).mono ?_
  rintro e w4 ⟨⟨d, rfl, ta⟩, hb⟩
  obtain ⟨ad, nd, rfl⟩ := texts_form ta
  have TD : Hid (Texts w4 w3.heap.size (Value.slice ad nd nd) Z) := ta
  have B4 : Hid (Below w3.heap.size w3 w4) := hb
  clear hb ta
  go_wp2_with fail
  refine (L2.out _).mono ?_
  rintro e w5 ⟨⟨m, rfl, ob⟩, hb⟩
  obtain ⟨am, nm, cm, rfl⟩ := own_form ob
  have OM : Hid (Reads w5 (Value.slice am nm cm) Y) := (own_reads2 ob).1
  have B5 : Hid (Below w4.heap.size w4 w5) := hb
  clear hb ob
  go_wp2_with fail
  refine (M2.out _).mono ?_
  rintro e w6 ⟨⟨q, rfl, ob⟩, hb⟩
  obtain ⟨aq, nq, cq, rfl⟩ := own_form ob
  have OQ : Hid (Reads w6 (Value.slice aq nq cq) Z) := (own_reads2 ob).1
  have B6 : Hid (Below w4.heap.size w4 w6) := over B5.out hb
  have RM : Hid (Reads w6 (Value.slice am nm cm) Y) := OM.out.later hb
  have RD : Hid (Reads w6 (Value.slice ad nd nd) Z) := (Texts.reads TD.out).later B6.out
  have RC : Hid (Reads w6 (Value.slice ac nc nc) Z) := ((Texts.reads TC.out).later B4.out).later B6.out
  have RB : Hid (Reads w6 (Value.slice ab nb nb) Y) := (((Texts.reads TB.out).later B3.out).later B4.out).later B6.out
  have RA : Hid (Reads w6 (Value.slice aa na na) Y) := ((((Texts.reads TA.out).later B2.out).later B3.out).later B4.out).later B6.out
  have SM : Hid (∀ (wx : World) (u v : Value) (X : List ByteArray), X.length ≤ 1048577 → Reads wx u X → Reads wx v X → Calls Tryd.prog 13 #[u, v] wx fun e w' => e = .returned (.bool true) ∧ ∃ m, w' = wx.drewN m) := fun wx u v X hX h1 h2 => same u v X wx h1 h2 (by omega)
  clear hb ob OM
  go_wp2_with fail
  refine (SM.out _ _ _ Y HYL.out RA.out RM.out).mono ?_
  rintro e w7 ⟨rfl, k7, hk7⟩
  have B7 : Hid (Below w6.heap.size w6 w7) := by subst hk7; exact below_dN (Below.refl _ _) k7
  clear hk7
  go_wp2_with fail
  refine (SM.out _ _ _ Y HYL.out (RB.out.later B7.out) (RM.out.later B7.out)).mono ?_
  rintro e w8 ⟨rfl, k8, hk8⟩
  have B8 : Hid (Below w6.heap.size w6 w8) := by subst hk8; exact below_dN B7.out k8
  clear hk8
  go_wp2_with fail
  refine (SM.out _ _ _ Z HZL.out (RC.out.later B8.out) (OQ.out.later B8.out)).mono ?_
  rintro e w9 ⟨rfl, k9, hk9⟩
  have B9 : Hid (Below w6.heap.size w6 w9) := by subst hk9; exact below_dN B8.out k9
  clear hk9
  go_wp2_with fail
  refine (SM.out _ _ _ Z HZL.out (RD.out.later B9.out) (OQ.out.later B9.out)).mono ?_
  rintro e wa ⟨rfl, ka, hka⟩
  have BA : Hid (Below w6.heap.size w6 wa) := by subst hka; exact below_dN B9.out ka
  have B4A : Hid (Below w4.heap.size w4 wa) := over B6.out BA.out
  have BWA : Hid (Below w.heap.size w wa) := over (over (over (over B1.out B2.out) B3.out) B4.out) B4A.out
  have AP : Hid (Calls Tryd.prog 32 #[.slice (some ⟨wa.heap.size, 0, none⟩) 4 4] (wa.alloc (.cells #[Value.slice aa na na, Value.slice ab nb nb, Value.slice ac nc nc, Value.slice ad nd nd] 29)) fun e w' => e = .returned (.bool true) ∧ Below w.heap.size w w') := by
    obtain ⟨gs, hR⟩ := row4 B1.out TA.out B2.out TB.out B3.out TC.out B4.out TD.out B4A.out
    refine Calls.mono (apart1 w.heap.size wa.heap.size [Value.slice aa na na, Value.slice ab nb nb, Value.slice ac nc nc, Value.slice ad nd nd] gs [Y, Y, Z, Z] 4 _ hR BWA.out.size (Nat.le_trans BWA.out.size (by simp)) (by simp) ?_) ?_
    · intro xs hx
      simp only [List.mem_cons, List.not_mem_nil, or_false] at hx
      rcases hx with rfl | rfl | rfl | rfl
      · exact HYL.out
      · exact HYL.out
      · exact HZL.out
      · exact HZL.out
    · rintro e w' ⟨he, hb⟩
      exact ⟨he, (BWA.out.alloc BWA.out.size _).trans hb⟩
  clear hka
  go_wp2_with fail
  refine AP.out.mono ?_
  rintro e wb ⟨rfl, hb⟩
  have HB9 : Hid (Below w.heap.size w wb) := hb
  clear hb
  go_wp2
  go_ret
  exact ⟨rfl, HB9.out⟩
end Go.Proofs.YthblljfkodbbeabDoor.zi
