import Derived.Test.YtmmbkfagchaocaaDoorH3
namespace Go.Proofs.YtmmbkfagchaocaaDoor.s12
open Go.RowKit Go.PlainAid
open Go.Proofs.YtmmbkfagchaocaaDoor.pl Go.Proofs.YtmmbkfagchaocaaDoor.pg Go.Proofs.YtmmbkfagchaocaaDoor.cp Go.Proofs.YtmmbkfagchaocaaDoor.ka Go.Proofs.YtmmbkfagchaocaaDoor.na Go.Proofs.YtmmbkfagchaocaaDoor.oa Go.Proofs.YtmmbkfagchaocaaDoor.ob Go.Proofs.YtmmbkfagchaocaaDoor.qa Go.Proofs.YtmmbkfagchaocaaDoor.qc Go.Proofs.YtmmbkfagchaocaaDoor.s1 Go.Proofs.YtmmbkfagchaocaaDoor.s2 Go.Proofs.YtmmbkfagchaocaaDoor.s3 Go.Proofs.YtmmbkfagchaocaaDoor.s4 Go.Proofs.YtmmbkfagchaocaaDoor.s5 Go.Proofs.YtmmbkfagchaocaaDoor.s6 Go.Proofs.YtmmbkfagchaocaaDoor.s8 Go.Proofs.YtmmbkfagchaocaaDoor.s7 Go.Proofs.YtmmbkfagchaocaaDoor.s9 Go.Proofs.YtmmbkfagchaocaaDoor.s10 Go.Proofs.YtmmbkfagchaocaaDoor.s11
set_option linter.unusedVariables false

theorem Twofold.later {w w' : World} {f g : FuncId} {args : Array Value} (h : Twofold w f g args) (b : Below w.heap.size w w') : Twofold w' f g args := by
  obtain ⟨x, y, L, N, c, z1, z2, h1, h2⟩ := h
  exact ⟨x, y, L, N, c, z1, z2, fun W d => h1 W (over b d), fun W d => h2 W (over b d)⟩
theorem Aq.at {w0 w : World} {H M : List (List (Value × List Value))} {F : List (Nat × Int × Int × Value)} (h : Aq w0 H M F w) {i : Nat} {f : Nat × Int × Int × Value} (hi : F[i]? = some f) : Fx w f.1 f.2.1 f.2.2.1 f.2.2.2 := h.bx f (List.mem_of_getElem? hi)
theorem all_take {α : Type} {P : α → Prop} {L : List α} {k n : Nat} (h : L.length = n ∧ ∀ z ∈ L.take k, P z) (hk : n ≤ k) : ∀ z ∈ L, P z := by
  have := h.2
  rw [List.take_of_length_le (by rw [h.1]; exact hk)] at this
  exact this
theorem all_app {α : Type} {P : α → Prop} {L R : List α} (h : ∀ z ∈ L, P z) (h' : ∀ z ∈ R, P z) : ∀ z ∈ L ++ R, P z := fun z hz => by
  rcases List.mem_append.1 hz with a | a
  · exact h z a
  · exact h' z a
theorem mls_two (x : ByteArray) : mls [((0, 0), x), ((0, 0), x)] = [.int .i64 0, .int .i64 0, .string x, .int .i64 0, .int .i64 0, .string x] := rfl
theorem one6 (x : ByteArray) : ∀ u ∈ mls [((0, 0), x), ((0, 0), x)], u.oneCell' = true := by
  intro u hu
  rw [mls_two] at hu
  rcases List.mem_cons.1 hu with rfl | hu
  · rfl
  rcases List.mem_cons.1 hu with rfl | hu
  · rfl
  rcases List.mem_cons.1 hu with rfl | hu
  · rfl
  rcases List.mem_cons.1 hu with rfl | hu
  · rfl
  rcases List.mem_cons.1 hu with rfl | hu
  · rfl
  rcases List.mem_cons.1 hu with rfl | hu
  · rfl
  cases hu
theorem one3 (x : ByteArray) : ∀ u ∈ [Value.string x, .string x, .string x], u.oneCell' = true := by
  intro u hu
  rcases List.mem_cons.1 hu with rfl | hu
  · rfl
  rcases List.mem_cons.1 hu with rfl | hu
  · rfl
  rcases List.mem_cons.1 hu with rfl | hu
  · rfl
  cases hu
theorem map3 (L : List ByteArray) (x : ByteArray) : L.map Value.string ++ [.string x, .string x, .string x] = (L ++ [x, x, x]).map Value.string := by rw [List.map_append]; rfl
set_option maxRecDepth 100000 in
set_option maxHeartbeats 12800000 in
theorem comp_fresh (w : World) (wd lo hi : Int) (a : Option Addr) (n cap : Nat) (lo' hi' : Int) (a' : Option Addr) (n' cap' : Nat) (h : ByteArray)
    (KA : Twofold w 5 7 #[.int .i64 wd, FV lo hi (.slice a n cap), .string h])
    (KB : Twofold w 5 7 #[.int .i64 wd, FV lo' hi' (.slice a' n' cap'), .string h])
    (MA : Twofold w 6 8 #[.int .i64 wd, FV lo hi (.slice a n cap), FV lo' hi' (.slice a' n' cap')])
    (MB : Twofold w 6 8 #[.int .i64 wd, FV lo' hi' (.slice a' n' cap'), FV lo hi (.slice a n cap)]) :
    Calls Tryd.prog 3 #[.int .i64 wd, FV lo hi (.slice a n cap), FV lo' hi' (.slice a' n' cap'), .string h] w fun e w' => e = .returned (.bool true) ∧ Below w.heap.size w w' := by
  obtain ⟨xa, ya, La, Na, lza, mza, ca, HLa, zla, zma, Ca, Da⟩ := Twofold.opened KA
  obtain ⟨xp, yp, Lp, Np, lzp, mzp, cp, HLp, zlp, zmp, Cp, Dp⟩ := Twofold.opened MA
  have HK : Hid (∀ W, Below w.heap.size w W → Calls _ _ _ W _) := fun W b => askedY W wd lo hi a n cap lo' hi' a' n' cap' h (Twofold.later KA b) (Twofold.later KB b) (Twofold.later MA b) (Twofold.later MB b)
  clear KA KB MA MB
  have K0 := ((Aq.start w).box lo hi (.slice a n cap)).box lo' hi' (.slice a' n' cap')
  rw [show (w.alloc (.cells #[.int .i64 lo, .int .i64 hi, (.slice a n cap)] 24)).heap.size = w.heap.size + 1 by simp] at K0
  obtain ⟨W0, HW0⟩ : ∃ W0, ((w.alloc (.cells #[.int .i64 lo, .int .i64 hi, (.slice a n cap)] 24)).alloc (.cells #[.int .i64 lo', .int .i64 hi', (.slice a' n' cap')] 24)) = W0 := ⟨_, rfl⟩
  rw [HW0] at K0
  have K : Hid (Aq w [] [] [(w.heap.size, lo, hi, .slice a n cap), (w.heap.size + 1, lo', hi', .slice a' n' cap')] W0) := K0
  clear K0
  obtain ⟨i9, I1, I2, I3, I4⟩ := info_parts hi9
  obtain ⟨iM, J1, J2, J3, J4⟩ := info_parts hiM
  have II : Hid (Tryd.prog.info? 9 = some i9 ∧ i9.zero = some (.string ByteArray.empty) ∧ i9.size = 1 ∧ i9.bytes = 16) := ⟨I1, I2, I3, I4⟩
  have JJ : Hid (Tryd.prog.info? 38 = some iM ∧ iM.zero = some (.agg #[.int .i64 0, .int .i64 0, .string ByteArray.empty]) ∧ iM.size = 3 ∧ iM.bytes = 32) := ⟨J1, J2, J3, J4⟩
  clear I1 I2 I3 I4 J1 J2 J3 J4
  go_enter Tryd.func3, Tryd.ntmps3
  skip
  obtain ⟨b01, b02, b03⟩ := (Aq.at K.out (i := 0) rfl).fb
  go_wp2_with fail
  refine (Ca.out _ K.out.fr).mono ?_
  rintro e w1 ⟨⟨pa, pc, ma, mc, rfl, hu, hm⟩, hb⟩
  have K2 : Hid (Aq w [[(.slice pa lza pc, La.map Value.string)]] [[(.slice ma mza mc, mls Na)]] [(w.heap.size, lo, hi, .slice a n cap), (w.heap.size + 1, lo', hi', .slice a' n' cap'), (w1.heap.size, xa, ya, .slice pa lza pc)] (w1.alloc (.cells #[.int .i64 xa, .int .i64 ya, .slice pa lza pc] 24))) := (K.out.add hb hu hm).box xa ya (.slice pa lza pc)
  clear b01 b02 b03
  clear hu hm hb K
  have K : Hid (Aq w [[(.slice pa lza pc, La.map Value.string)]] [[(.slice ma mza mc, mls Na)]] [(w.heap.size, lo, hi, .slice a n cap), (w.heap.size + 1, lo', hi', .slice a' n' cap'), (w1.heap.size, xa, ya, .slice pa lza pc)] (w1.alloc (.cells #[.int .i64 xa, .int .i64 ya, .slice pa lza pc] 24))) := K2
  clear K2
  obtain ⟨b01, b02, b03⟩ := (Aq.at K.out (i := 0) rfl).fb
  obtain ⟨b11, b12, b13⟩ := (Aq.at K.out (i := 1) rfl).fb
  go_wp2_with fail
  refine (Cp.out _ K.out.fr).mono ?_
  rintro e w2 ⟨⟨qa, qc, n_a, n_c, rfl, hu, hm⟩, hb⟩
  have K2 : Hid (Aq w [[(.slice pa lza pc, La.map Value.string)], [(.slice qa lzp qc, Lp.map Value.string)]] [[(.slice ma mza mc, mls Na)], [(.slice n_a mzp n_c, mls Np)]] [(w.heap.size, lo, hi, .slice a n cap), (w.heap.size + 1, lo', hi', .slice a' n' cap'), (w1.heap.size, xa, ya, .slice pa lza pc), (w2.heap.size, xp, yp, .slice qa lzp qc)] (w2.alloc (.cells #[.int .i64 xp, .int .i64 yp, .slice qa lzp qc] 24))) := (K.out.add hb hu hm).box xp yp (.slice qa lzp qc)
  clear b01 b02 b03 b11 b12 b13
  clear hu hm hb K
  have K : Hid (Aq w [[(.slice pa lza pc, La.map Value.string)], [(.slice qa lzp qc, Lp.map Value.string)]] [[(.slice ma mza mc, mls Na)], [(.slice n_a mzp n_c, mls Np)]] [(w.heap.size, lo, hi, .slice a n cap), (w.heap.size + 1, lo', hi', .slice a' n' cap'), (w1.heap.size, xa, ya, .slice pa lza pc), (w2.heap.size, xp, yp, .slice qa lzp qc)] (w2.alloc (.cells #[.int .i64 xp, .int .i64 yp, .slice qa lzp qc] 24))) := K2
  clear K2
  obtain ⟨b01, b02, b03⟩ := (Aq.at K.out (i := 0) rfl).fb
  go_wp2_with fail
  refine (Da.out _ K.out.fr).mono ?_
  rintro e w3 ⟨⟨sa, sc, y_a, y_c, rfl, hu, hm⟩, hb⟩
  have K2 : Hid (Aq w [[(.slice pa lza pc, La.map Value.string)], [(.slice qa lzp qc, Lp.map Value.string)], [(.slice sa lza sc, La.map Value.string)]] [[(.slice ma mza mc, mls Na)], [(.slice n_a mzp n_c, mls Np)], [(.slice y_a mza y_c, mls Na)]] [(w.heap.size, lo, hi, .slice a n cap), (w.heap.size + 1, lo', hi', .slice a' n' cap'), (w1.heap.size, xa, ya, .slice pa lza pc), (w2.heap.size, xp, yp, .slice qa lzp qc), (w3.heap.size, xa, ya, .slice sa lza sc)] (w3.alloc (.cells #[.int .i64 xa, .int .i64 ya, .slice sa lza sc] 24))) := (K.out.add hb hu hm).box xa ya (.slice sa lza sc)
  clear b01 b02 b03
  clear hu hm hb K
  have K : Hid (Aq w [[(.slice pa lza pc, La.map Value.string)], [(.slice qa lzp qc, Lp.map Value.string)], [(.slice sa lza sc, La.map Value.string)]] [[(.slice ma mza mc, mls Na)], [(.slice n_a mzp n_c, mls Np)], [(.slice y_a mza y_c, mls Na)]] [(w.heap.size, lo, hi, .slice a n cap), (w.heap.size + 1, lo', hi', .slice a' n' cap'), (w1.heap.size, xa, ya, .slice pa lza pc), (w2.heap.size, xp, yp, .slice qa lzp qc), (w3.heap.size, xa, ya, .slice sa lza sc)] (w3.alloc (.cells #[.int .i64 xa, .int .i64 ya, .slice sa lza sc] 24))) := K2
  clear K2
  obtain ⟨b01, b02, b03⟩ := (Aq.at K.out (i := 0) rfl).fb
  obtain ⟨b11, b12, b13⟩ := (Aq.at K.out (i := 1) rfl).fb
  go_wp2_with fail
  refine (Dp.out _ K.out.fr).mono ?_
  rintro e w4 ⟨⟨va, vc, oa, oc, rfl, hu, hm⟩, hb⟩
  have K2 : Hid (Aq w [[(.slice pa lza pc, La.map Value.string)], [(.slice qa lzp qc, Lp.map Value.string)], [(.slice sa lza sc, La.map Value.string)], [(.slice va lzp vc, Lp.map Value.string)]] [[(.slice ma mza mc, mls Na)], [(.slice n_a mzp n_c, mls Np)], [(.slice y_a mza y_c, mls Na)], [(.slice oa mzp oc, mls Np)]] [(w.heap.size, lo, hi, .slice a n cap), (w.heap.size + 1, lo', hi', .slice a' n' cap'), (w1.heap.size, xa, ya, .slice pa lza pc), (w2.heap.size, xp, yp, .slice qa lzp qc), (w3.heap.size, xa, ya, .slice sa lza sc), (w4.heap.size, xp, yp, .slice va lzp vc)] (w4.alloc (.cells #[.int .i64 xp, .int .i64 yp, .slice va lzp vc] 24))) := (K.out.add hb hu hm).box xp yp (.slice va lzp vc)
  clear b01 b02 b03 b11 b12 b13
  clear hu hm hb K
  have K : Hid (Aq w [[(.slice pa lza pc, La.map Value.string)], [(.slice qa lzp qc, Lp.map Value.string)], [(.slice sa lza sc, La.map Value.string)], [(.slice va lzp vc, Lp.map Value.string)]] [[(.slice ma mza mc, mls Na)], [(.slice n_a mzp n_c, mls Np)], [(.slice y_a mza y_c, mls Na)], [(.slice oa mzp oc, mls Np)]] [(w.heap.size, lo, hi, .slice a n cap), (w.heap.size + 1, lo', hi', .slice a' n' cap'), (w1.heap.size, xa, ya, .slice pa lza pc), (w2.heap.size, xp, yp, .slice qa lzp qc), (w3.heap.size, xa, ya, .slice sa lza sc), (w4.heap.size, xp, yp, .slice va lzp vc)] (w4.alloc (.cells #[.int .i64 xp, .int .i64 yp, .slice va lzp vc] 24))) := K2
  clear K2
  obtain ⟨b21, b22, b23⟩ := (Aq.at K.out (i := 2) rfl).fb
  obtain ⟨b41, b42, b43⟩ := (Aq.at K.out (i := 4) rfl).fb
  have CS : Hid (Calls _ _ _ _ _) := same_yes xa ya (.slice pa lza pc) (.slice sa lza sc) La _ (K.out.readH (k := 0) rfl (List.mem_singleton.2 rfl)) (K.out.readH (k := 2) rfl (List.mem_singleton.2 rfl)) (by have := HLa.out.1; omega)
  go_wp2_with fail
  refine CS.out.mono ?_
  rintro e w5 ⟨rfl, hb⟩
  have K2 : Hid (Aq w [[(.slice pa lza pc, La.map Value.string)], [(.slice qa lzp qc, Lp.map Value.string)], [(.slice sa lza sc, La.map Value.string)], [(.slice va lzp vc, Lp.map Value.string)]] [[(.slice ma mza mc, mls Na)], [(.slice n_a mzp n_c, mls Np)], [(.slice y_a mza y_c, mls Na)], [(.slice oa mzp oc, mls Np)]] [(w.heap.size, lo, hi, .slice a n cap), (w.heap.size + 1, lo', hi', .slice a' n' cap'), (w1.heap.size, xa, ya, .slice pa lza pc), (w2.heap.size, xp, yp, .slice qa lzp qc), (w3.heap.size, xa, ya, .slice sa lza sc), (w4.heap.size, xp, yp, .slice va lzp vc)] w5) := K.out.later hb
  clear hb CS K
  clear b21 b22 b23 b41 b42 b43
  have K : Hid (Aq w [[(.slice pa lza pc, La.map Value.string)], [(.slice qa lzp qc, Lp.map Value.string)], [(.slice sa lza sc, La.map Value.string)], [(.slice va lzp vc, Lp.map Value.string)]] [[(.slice ma mza mc, mls Na)], [(.slice n_a mzp n_c, mls Np)], [(.slice y_a mza y_c, mls Na)], [(.slice oa mzp oc, mls Np)]] [(w.heap.size, lo, hi, .slice a n cap), (w.heap.size + 1, lo', hi', .slice a' n' cap'), (w1.heap.size, xa, ya, .slice pa lza pc), (w2.heap.size, xp, yp, .slice qa lzp qc), (w3.heap.size, xa, ya, .slice sa lza sc), (w4.heap.size, xp, yp, .slice va lzp vc)] w5) := K2
  clear K2
  have CM : Hid (Calls _ _ _ _ _) := rs.sameM_yes (.slice ma mza mc) (.slice y_a mza y_c) Na w5 (K.out.readM (k := 0) rfl (List.mem_singleton.2 rfl)) (K.out.readM (k := 2) rfl (List.mem_singleton.2 rfl)) (by have := HLa.out.2; omega)
  go_wp2_with fail
  refine CM.out.mono ?_
  rintro e w6 ⟨rfl, hb⟩
  have K2 : Hid (Aq w [[(.slice pa lza pc, La.map Value.string)], [(.slice qa lzp qc, Lp.map Value.string)], [(.slice sa lza sc, La.map Value.string)], [(.slice va lzp vc, Lp.map Value.string)]] [[(.slice ma mza mc, mls Na)], [(.slice n_a mzp n_c, mls Np)], [(.slice y_a mza y_c, mls Na)], [(.slice oa mzp oc, mls Np)]] [(w.heap.size, lo, hi, .slice a n cap), (w.heap.size + 1, lo', hi', .slice a' n' cap'), (w1.heap.size, xa, ya, .slice pa lza pc), (w2.heap.size, xp, yp, .slice qa lzp qc), (w3.heap.size, xa, ya, .slice sa lza sc), (w4.heap.size, xp, yp, .slice va lzp vc)] w6) := K.out.later hb
  clear hb CM K
  have K : Hid (Aq w [[(.slice pa lza pc, La.map Value.string)], [(.slice qa lzp qc, Lp.map Value.string)], [(.slice sa lza sc, La.map Value.string)], [(.slice va lzp vc, Lp.map Value.string)]] [[(.slice ma mza mc, mls Na)], [(.slice n_a mzp n_c, mls Np)], [(.slice y_a mza y_c, mls Na)], [(.slice oa mzp oc, mls Np)]] [(w.heap.size, lo, hi, .slice a n cap), (w.heap.size + 1, lo', hi', .slice a' n' cap'), (w1.heap.size, xa, ya, .slice pa lza pc), (w2.heap.size, xp, yp, .slice qa lzp qc), (w3.heap.size, xa, ya, .slice sa lza sc), (w4.heap.size, xp, yp, .slice va lzp vc)] w6) := K2
  clear K2
  obtain ⟨b31, b32, b33⟩ := (Aq.at K.out (i := 3) rfl).fb
  obtain ⟨b51, b52, b53⟩ := (Aq.at K.out (i := 5) rfl).fb
  have CS : Hid (Calls _ _ _ _ _) := same_yes xp yp (.slice qa lzp qc) (.slice va lzp vc) Lp _ (K.out.readH (k := 1) rfl (List.mem_singleton.2 rfl)) (K.out.readH (k := 3) rfl (List.mem_singleton.2 rfl)) (by have := HLp.out.1; omega)
  go_wp2_with fail
  refine CS.out.mono ?_
  rintro e w7 ⟨rfl, hb⟩
  have K2 : Hid (Aq w [[(.slice pa lza pc, La.map Value.string)], [(.slice qa lzp qc, Lp.map Value.string)], [(.slice sa lza sc, La.map Value.string)], [(.slice va lzp vc, Lp.map Value.string)]] [[(.slice ma mza mc, mls Na)], [(.slice n_a mzp n_c, mls Np)], [(.slice y_a mza y_c, mls Na)], [(.slice oa mzp oc, mls Np)]] [(w.heap.size, lo, hi, .slice a n cap), (w.heap.size + 1, lo', hi', .slice a' n' cap'), (w1.heap.size, xa, ya, .slice pa lza pc), (w2.heap.size, xp, yp, .slice qa lzp qc), (w3.heap.size, xa, ya, .slice sa lza sc), (w4.heap.size, xp, yp, .slice va lzp vc)] w7) := K.out.later hb
  clear hb CS K
  clear b31 b32 b33 b51 b52 b53
  have K : Hid (Aq w [[(.slice pa lza pc, La.map Value.string)], [(.slice qa lzp qc, Lp.map Value.string)], [(.slice sa lza sc, La.map Value.string)], [(.slice va lzp vc, Lp.map Value.string)]] [[(.slice ma mza mc, mls Na)], [(.slice n_a mzp n_c, mls Np)], [(.slice y_a mza y_c, mls Na)], [(.slice oa mzp oc, mls Np)]] [(w.heap.size, lo, hi, .slice a n cap), (w.heap.size + 1, lo', hi', .slice a' n' cap'), (w1.heap.size, xa, ya, .slice pa lza pc), (w2.heap.size, xp, yp, .slice qa lzp qc), (w3.heap.size, xa, ya, .slice sa lza sc), (w4.heap.size, xp, yp, .slice va lzp vc)] w7) := K2
  clear K2
  have CM : Hid (Calls _ _ _ _ _) := rs.sameM_yes (.slice n_a mzp n_c) (.slice oa mzp oc) Np w7 (K.out.readM (k := 1) rfl (List.mem_singleton.2 rfl)) (K.out.readM (k := 3) rfl (List.mem_singleton.2 rfl)) (by have := HLp.out.2; omega)
  go_wp2_with fail
  refine CM.out.mono ?_
  rintro e w8 ⟨rfl, hb⟩
  have K2 : Hid (Aq w [[(.slice pa lza pc, La.map Value.string)], [(.slice qa lzp qc, Lp.map Value.string)], [(.slice sa lza sc, La.map Value.string)], [(.slice va lzp vc, Lp.map Value.string)]] [[(.slice ma mza mc, mls Na)], [(.slice n_a mzp n_c, mls Np)], [(.slice y_a mza y_c, mls Na)], [(.slice oa mzp oc, mls Np)]] [(w.heap.size, lo, hi, .slice a n cap), (w.heap.size + 1, lo', hi', .slice a' n' cap'), (w1.heap.size, xa, ya, .slice pa lza pc), (w2.heap.size, xp, yp, .slice qa lzp qc), (w3.heap.size, xa, ya, .slice sa lza sc), (w4.heap.size, xp, yp, .slice va lzp vc)] w8) := K.out.later hb
  clear hb CM K
  have K : Hid (Aq w [[(.slice pa lza pc, La.map Value.string)], [(.slice qa lzp qc, Lp.map Value.string)], [(.slice sa lza sc, La.map Value.string)], [(.slice va lzp vc, Lp.map Value.string)]] [[(.slice ma mza mc, mls Na)], [(.slice n_a mzp n_c, mls Np)], [(.slice y_a mza y_c, mls Na)], [(.slice oa mzp oc, mls Np)]] [(w.heap.size, lo, hi, .slice a n cap), (w.heap.size + 1, lo', hi', .slice a' n' cap'), (w1.heap.size, xa, ya, .slice pa lza pc), (w2.heap.size, xp, yp, .slice qa lzp qc), (w3.heap.size, xa, ya, .slice sa lza sc), (w4.heap.size, xp, yp, .slice va lzp vc)] w8) := K2
  clear K2
  go_wp2
  go_loopw [23] (fun j wr => ∃ (k : Nat) (Lx : List ByteArray), k ≤ lza ∧ j = .int .i64 k ∧ Hid (Aq w [[(.slice pa lza pc, Lx.map Value.string)], [(.slice qa lzp qc, Lp.map Value.string)], [(.slice sa lza sc, La.map Value.string)], [(.slice va lzp vc, Lp.map Value.string)]] [[(.slice ma mza mc, mls Na)], [(.slice n_a mzp n_c, mls Np)], [(.slice y_a mza y_c, mls Na)], [(.slice oa mzp oc, mls Np)]] [(w.heap.size, lo, hi, .slice a n cap), (w.heap.size + 1, lo', hi', .slice a' n' cap'), (w1.heap.size, xa, ya, .slice pa lza pc), (w2.heap.size, xp, yp, .slice qa lzp qc), (w3.heap.size, xa, ya, .slice sa lza sc), (w4.heap.size, xp, yp, .slice va lzp vc)] wr) ∧ Hid (Lx.length = lza ∧ ∀ z ∈ Lx.take k, z = (⟨#[111, 110, 101]⟩ : ByteArray))) (fun j _ => (lza - intOf j).toNat)
  case atStart => exact ⟨0, La, by omega, rfl, K, HLa.out.1, fun z hz => by simp at hz⟩
  case round =>
    clear K
    obtain ⟨k, Lx, hk, rfl, K, HX⟩ := hrel
    obtain ⟨b21, b22, b23⟩ := (Aq.at K.out (i := 2) rfl).fb
    by_cases hlt : k < lza
    · have hlt' : (k : Int) < lza := by omega
      obtain ⟨g, rfl, ⟨uu, k1⟩, f1⟩ := K.out.slotH (k := 0) rfl hlt
      have KP : Hid (Aq w [[(.slice (some ⟨g, 0, none⟩) lza pc, (Lx.set k (⟨#[111, 110, 101]⟩ : ByteArray)).map Value.string)], [(.slice qa lzp qc, Lp.map Value.string)], [(.slice sa lza sc, La.map Value.string)], [(.slice va lzp vc, Lp.map Value.string)]] [[(.slice ma mza mc, mls Na)], [(.slice n_a mzp n_c, mls Np)], [(.slice y_a mza y_c, mls Na)], [(.slice oa mzp oc, mls Np)]] [(w.heap.size, lo, hi, .slice a n cap), (w.heap.size + 1, lo', hi', .slice a' n' cap'), (w1.heap.size, xa, ya, .slice (some ⟨g, 0, none⟩) lza pc), (w2.heap.size, xp, yp, .slice qa lzp qc), (w3.heap.size, xa, ya, .slice sa lza sc), (w4.heap.size, xp, yp, .slice va lzp vc)] (wr.setCell ⟨g, k, none⟩ (.string (⟨#[111, 110, 101]⟩ : ByteArray)))) := K.out.putH (k := 0) rfl (⟨#[111, 110, 101]⟩ : ByteArray)
      have HP : Hid ((Lx.set k (⟨#[111, 110, 101]⟩ : ByteArray)).length = lza ∧ ∀ z ∈ (Lx.set k (⟨#[111, 110, 101]⟩ : ByteArray)).take (k + 1), z = (⟨#[111, 110, 101]⟩ : ByteArray)) := ⟨by rw [List.length_set]; exact HX.out.1, take_setp (by rw [HX.out.1]; exact hlt) HX.out.2 _ rfl⟩
      clear K HX
      go_wp2
      go_roundw
      case rel => exact ⟨k + 1, _, by omega, by go_num, KP, HP⟩
      case measure => simp [intOf]; omega
    · have hlt' : ¬ (k : Int) < lza := by omega
      obtain ⟨L1, HYL1⟩ : ∃ L, Hid (L = Lx) := ⟨_, rfl⟩
      have hyy := HYL1.out
      subst hyy
      have HML1 : Hid (L1.length = lza ∧ ∀ z ∈ L1, z = (⟨#[111, 110, 101]⟩ : ByteArray)) := ⟨HX.out.1, all_take HX.out (by omega)⟩
      clear HYL1 HX
      obtain ⟨wq, rfl⟩ : ∃ v, v = wr := ⟨_, rfl⟩
      go_wp2
      go_loopw [24] (fun j wr => ∃ (k : Nat) (Nx : List Md), k ≤ mza ∧ j = .int .i64 k ∧ Hid (Aq w [[(.slice pa lza pc, L1.map Value.string)], [(.slice qa lzp qc, Lp.map Value.string)], [(.slice sa lza sc, La.map Value.string)], [(.slice va lzp vc, Lp.map Value.string)]] [[(.slice ma mza mc, mls Nx)], [(.slice n_a mzp n_c, mls Np)], [(.slice y_a mza y_c, mls Na)], [(.slice oa mzp oc, mls Np)]] [(w.heap.size, lo, hi, .slice a n cap), (w.heap.size + 1, lo', hi', .slice a' n' cap'), (w1.heap.size, xa, ya, .slice pa lza pc), (w2.heap.size, xp, yp, .slice qa lzp qc), (w3.heap.size, xa, ya, .slice sa lza sc), (w4.heap.size, xp, yp, .slice va lzp vc)] wr) ∧ Hid (Nx.length = mza ∧ ∀ z ∈ Nx.take k, z.2 = (⟨#[111, 110, 101]⟩ : ByteArray))) (fun j _ => (mza - intOf j).toNat)
      case atStart => exact ⟨0, Na, by omega, rfl, K, HLa.out.2, fun z hz => by simp at hz⟩
      case round =>
        clear K
        obtain ⟨k, Nx, hk, rfl, K, HX⟩ := hrel
        by_cases hlt : k < mza
        · have hlt' : (k : Int) < mza := by omega
          obtain ⟨g, rfl, ⟨⟨uu1, k1⟩, f1⟩, ⟨⟨uu2, k2⟩, f2⟩, ⟨⟨uu3, k3⟩, f3⟩⟩ := K.out.slotM (k := 0) rfl hlt
          have KP : Hid (Aq w [[(.slice pa lza pc, L1.map Value.string)], [(.slice qa lzp qc, Lp.map Value.string)], [(.slice sa lza sc, La.map Value.string)], [(.slice va lzp vc, Lp.map Value.string)]] [[(.slice (some ⟨g, 0, none⟩) mza mc, mls (Nx.set k ((0, 0), (⟨#[111, 110, 101]⟩ : ByteArray))))], [(.slice n_a mzp n_c, mls Np)], [(.slice y_a mza y_c, mls Na)], [(.slice oa mzp oc, mls Np)]] [(w.heap.size, lo, hi, .slice a n cap), (w.heap.size + 1, lo', hi', .slice a' n' cap'), (w1.heap.size, xa, ya, .slice pa lza pc), (w2.heap.size, xp, yp, .slice qa lzp qc), (w3.heap.size, xa, ya, .slice sa lza sc), (w4.heap.size, xp, yp, .slice va lzp vc)] (((wr.setCell ⟨g, k * 3, none⟩ (.int .i64 0)).setCell ⟨g, k * 3 + 1, none⟩ (.int .i64 0)).setCell ⟨g, k * 3 + 2, none⟩ (.string (⟨#[111, 110, 101]⟩ : ByteArray)))) := K.out.putM3 (k := 0) rfl (by rw [HX.out.1]; exact hlt) ((0, 0), (⟨#[111, 110, 101]⟩ : ByteArray))
          have HP : Hid ((Nx.set k ((0, 0), (⟨#[111, 110, 101]⟩ : ByteArray))).length = mza ∧ ∀ z ∈ (Nx.set k ((0, 0), (⟨#[111, 110, 101]⟩ : ByteArray))).take (k + 1), z.2 = (⟨#[111, 110, 101]⟩ : ByteArray)) := ⟨by rw [List.length_set]; exact HX.out.1, take_setp (P := fun z : Md => z.2 = (⟨#[111, 110, 101]⟩ : ByteArray)) (by rw [HX.out.1]; exact hlt) HX.out.2 _ rfl⟩
          clear K HX
          go_wp2
          go_roundw
          case rel => exact ⟨k + 1, _, by omega, by go_num, KP, HP⟩
          case measure => simp [intOf]; omega
        · have hlt' : ¬ (k : Int) < mza := by omega
          obtain ⟨N1, HYN1⟩ : ∃ L, Hid (L = Nx) := ⟨_, rfl⟩
          have hyy := HYN1.out
          subst hyy
          have HMN1 : Hid (N1.length = mza ∧ ∀ z ∈ N1, z.2 = (⟨#[111, 110, 101]⟩ : ByteArray)) := ⟨HX.out.1, all_take HX.out (by omega)⟩
          clear HYN1 HX
          obtain ⟨wq, rfl⟩ : ∃ v, v = wr := ⟨_, rfl⟩
          clear b21 b22 b23
          go_wp2
          go_loopw [25] (fun j wr => ∃ (k : Nat) (Lx : List ByteArray), k ≤ lzp ∧ j = .int .i64 k ∧ Hid (Aq w [[(.slice pa lza pc, L1.map Value.string)], [(.slice qa lzp qc, Lx.map Value.string)], [(.slice sa lza sc, La.map Value.string)], [(.slice va lzp vc, Lp.map Value.string)]] [[(.slice ma mza mc, mls N1)], [(.slice n_a mzp n_c, mls Np)], [(.slice y_a mza y_c, mls Na)], [(.slice oa mzp oc, mls Np)]] [(w.heap.size, lo, hi, .slice a n cap), (w.heap.size + 1, lo', hi', .slice a' n' cap'), (w1.heap.size, xa, ya, .slice pa lza pc), (w2.heap.size, xp, yp, .slice qa lzp qc), (w3.heap.size, xa, ya, .slice sa lza sc), (w4.heap.size, xp, yp, .slice va lzp vc)] wr) ∧ Hid (Lx.length = lzp ∧ ∀ z ∈ Lx.take k, z = (⟨#[116, 119, 111]⟩ : ByteArray))) (fun j _ => (lzp - intOf j).toNat)
          case atStart => exact ⟨0, Lp, by omega, rfl, K, HLp.out.1, fun z hz => by simp at hz⟩
          case round =>
            clear K
            obtain ⟨k, Lx, hk, rfl, K, HX⟩ := hrel
            obtain ⟨b31, b32, b33⟩ := (Aq.at K.out (i := 3) rfl).fb
            by_cases hlt : k < lzp
            · have hlt' : (k : Int) < lzp := by omega
              obtain ⟨g, rfl, ⟨uu, k1⟩, f1⟩ := K.out.slotH (k := 1) rfl hlt
              have KP : Hid (Aq w [[(.slice pa lza pc, L1.map Value.string)], [(.slice (some ⟨g, 0, none⟩) lzp qc, (Lx.set k (⟨#[116, 119, 111]⟩ : ByteArray)).map Value.string)], [(.slice sa lza sc, La.map Value.string)], [(.slice va lzp vc, Lp.map Value.string)]] [[(.slice ma mza mc, mls N1)], [(.slice n_a mzp n_c, mls Np)], [(.slice y_a mza y_c, mls Na)], [(.slice oa mzp oc, mls Np)]] [(w.heap.size, lo, hi, .slice a n cap), (w.heap.size + 1, lo', hi', .slice a' n' cap'), (w1.heap.size, xa, ya, .slice pa lza pc), (w2.heap.size, xp, yp, .slice (some ⟨g, 0, none⟩) lzp qc), (w3.heap.size, xa, ya, .slice sa lza sc), (w4.heap.size, xp, yp, .slice va lzp vc)] (wr.setCell ⟨g, k, none⟩ (.string (⟨#[116, 119, 111]⟩ : ByteArray)))) := K.out.putH (k := 1) rfl (⟨#[116, 119, 111]⟩ : ByteArray)
              have HP : Hid ((Lx.set k (⟨#[116, 119, 111]⟩ : ByteArray)).length = lzp ∧ ∀ z ∈ (Lx.set k (⟨#[116, 119, 111]⟩ : ByteArray)).take (k + 1), z = (⟨#[116, 119, 111]⟩ : ByteArray)) := ⟨by rw [List.length_set]; exact HX.out.1, take_setp (by rw [HX.out.1]; exact hlt) HX.out.2 _ rfl⟩
              clear K HX
              go_wp2
              go_roundw
              case rel => exact ⟨k + 1, _, by omega, by go_num, KP, HP⟩
              case measure => simp [intOf]; omega
            · have hlt' : ¬ (k : Int) < lzp := by omega
              obtain ⟨L2, HYL2⟩ : ∃ L, Hid (L = Lx) := ⟨_, rfl⟩
              have hyy := HYL2.out
              subst hyy
              have HML2 : Hid (L2.length = lzp ∧ ∀ z ∈ L2, z = (⟨#[116, 119, 111]⟩ : ByteArray)) := ⟨HX.out.1, all_take HX.out (by omega)⟩
              clear HYL2 HX
              obtain ⟨wq, rfl⟩ : ∃ v, v = wr := ⟨_, rfl⟩
              go_wp2
              go_loopw [26] (fun j wr => ∃ (k : Nat) (Nx : List Md), k ≤ mzp ∧ j = .int .i64 k ∧ Hid (Aq w [[(.slice pa lza pc, L1.map Value.string)], [(.slice qa lzp qc, L2.map Value.string)], [(.slice sa lza sc, La.map Value.string)], [(.slice va lzp vc, Lp.map Value.string)]] [[(.slice ma mza mc, mls N1)], [(.slice n_a mzp n_c, mls Nx)], [(.slice y_a mza y_c, mls Na)], [(.slice oa mzp oc, mls Np)]] [(w.heap.size, lo, hi, .slice a n cap), (w.heap.size + 1, lo', hi', .slice a' n' cap'), (w1.heap.size, xa, ya, .slice pa lza pc), (w2.heap.size, xp, yp, .slice qa lzp qc), (w3.heap.size, xa, ya, .slice sa lza sc), (w4.heap.size, xp, yp, .slice va lzp vc)] wr) ∧ Hid (Nx.length = mzp ∧ ∀ z ∈ Nx.take k, z.2 = (⟨#[116, 119, 111]⟩ : ByteArray))) (fun j _ => (mzp - intOf j).toNat)
              case atStart => exact ⟨0, Np, by omega, rfl, K, HLp.out.2, fun z hz => by simp at hz⟩
              case round =>
                clear K
                obtain ⟨k, Nx, hk, rfl, K, HX⟩ := hrel
                by_cases hlt : k < mzp
                · have hlt' : (k : Int) < mzp := by omega
                  obtain ⟨g, rfl, ⟨⟨uu1, k1⟩, f1⟩, ⟨⟨uu2, k2⟩, f2⟩, ⟨⟨uu3, k3⟩, f3⟩⟩ := K.out.slotM (k := 1) rfl hlt
                  have KP : Hid (Aq w [[(.slice pa lza pc, L1.map Value.string)], [(.slice qa lzp qc, L2.map Value.string)], [(.slice sa lza sc, La.map Value.string)], [(.slice va lzp vc, Lp.map Value.string)]] [[(.slice ma mza mc, mls N1)], [(.slice (some ⟨g, 0, none⟩) mzp n_c, mls (Nx.set k ((0, 0), (⟨#[116, 119, 111]⟩ : ByteArray))))], [(.slice y_a mza y_c, mls Na)], [(.slice oa mzp oc, mls Np)]] [(w.heap.size, lo, hi, .slice a n cap), (w.heap.size + 1, lo', hi', .slice a' n' cap'), (w1.heap.size, xa, ya, .slice pa lza pc), (w2.heap.size, xp, yp, .slice qa lzp qc), (w3.heap.size, xa, ya, .slice sa lza sc), (w4.heap.size, xp, yp, .slice va lzp vc)] (((wr.setCell ⟨g, k * 3, none⟩ (.int .i64 0)).setCell ⟨g, k * 3 + 1, none⟩ (.int .i64 0)).setCell ⟨g, k * 3 + 2, none⟩ (.string (⟨#[116, 119, 111]⟩ : ByteArray)))) := K.out.putM3 (k := 1) rfl (by rw [HX.out.1]; exact hlt) ((0, 0), (⟨#[116, 119, 111]⟩ : ByteArray))
                  have HP : Hid ((Nx.set k ((0, 0), (⟨#[116, 119, 111]⟩ : ByteArray))).length = mzp ∧ ∀ z ∈ (Nx.set k ((0, 0), (⟨#[116, 119, 111]⟩ : ByteArray))).take (k + 1), z.2 = (⟨#[116, 119, 111]⟩ : ByteArray)) := ⟨by rw [List.length_set]; exact HX.out.1, take_setp (P := fun z : Md => z.2 = (⟨#[116, 119, 111]⟩ : ByteArray)) (by rw [HX.out.1]; exact hlt) HX.out.2 _ rfl⟩
                  clear K HX
                  go_wp2
                  go_roundw
                  case rel => exact ⟨k + 1, _, by omega, by go_num, KP, HP⟩
                  case measure => simp [intOf]; omega
                · have hlt' : ¬ (k : Int) < mzp := by omega
                  obtain ⟨N2, HYN2⟩ : ∃ L, Hid (L = Nx) := ⟨_, rfl⟩
                  have hyy := HYN2.out
                  subst hyy
                  have HMN2 : Hid (N2.length = mzp ∧ ∀ z ∈ N2, z.2 = (⟨#[116, 119, 111]⟩ : ByteArray)) := ⟨HX.out.1, all_take HX.out (by omega)⟩
                  clear HYN2 HX
                  obtain ⟨wq, rfl⟩ : ∃ v, v = wr := ⟨_, rfl⟩
                  clear b31 b32 b33
                  obtain ⟨b21, b22, b23⟩ := (Aq.at K.out (i := 2) rfl).fb
                  go_upto_region 25 with fail
                  have KA0 : Hid (Aq w [[(.slice pa lza pc, L1.map Value.string)], [(.slice qa lzp qc, L2.map Value.string)], [(.slice sa lza sc, La.map Value.string)], [(.slice va lzp vc, Lp.map Value.string)]] [[(.slice ma mza mc, mls N1)], [(.slice n_a mzp n_c, mls N2)], [(.slice y_a mza y_c, mls Na)], [(.slice oa mzp oc, mls Np)]] [(w.heap.size, lo, hi, .slice a n cap), (w.heap.size + 1, lo', hi', .slice a' n' cap'), (w1.heap.size, xa, ya, .slice pa lza pc), (w2.heap.size, xp, yp, .slice qa lzp qc), (w3.heap.size, xa, ya, .slice sa lza sc), (w4.heap.size, xp, yp, .slice va lzp vc)] (wq.alloc (.cells #[.string (⟨#[111, 110, 101]⟩ : ByteArray), .string (⟨#[111, 110, 101]⟩ : ByteArray), .string (⟨#[111, 110, 101]⟩ : ByteArray)] 9))) := K.out.later ((Below.refl _ _).alloc (Nat.le_refl _) _)
                  have O0 : Hid ((wq.alloc (.cells #[.string (⟨#[111, 110, 101]⟩ : ByteArray), .string (⟨#[111, 110, 101]⟩ : ByteArray), .string (⟨#[111, 110, 101]⟩ : ByteArray)] 9)).ownsRow w.heap.size 9 1 (.slice pa lza pc) lza (L1.map Value.string)) := KA0.out.ownH (k := 0) rfl (List.mem_singleton.2 rfl)
                  have Q0 : Hid (∀ j z, [Value.string (⟨#[111, 110, 101]⟩ : ByteArray), .string (⟨#[111, 110, 101]⟩ : ByteArray), .string (⟨#[111, 110, 101]⟩ : ByteArray)][j]? = some z → (wq.alloc (.cells #[.string (⟨#[111, 110, 101]⟩ : ByteArray), .string (⟨#[111, 110, 101]⟩ : ByteArray), .string (⟨#[111, 110, 101]⟩ : ByteArray)] 9)).cell? ((⟨wq.heap.size, 0, none⟩ : Addr).add j) = some z) := new3S wq (⟨#[111, 110, 101]⟩ : ByteArray) _
                  clear K
                  go_upto_region 26 with (at_builtin; (
                    refine wpList_appS rfl (.tmp 139) (.tmp 140) 22 rfl w.heap.size 1 9 i9 (.string ByteArray.empty) 16 Tryd.underlying22 II.out.1 II.out.2.1 II.out.2.2.1 II.out.2.2.2 rfl (by decide) _ lza _ rfl O0.out ⟨wq.heap.size, 0, none⟩ 3 3 [.string (⟨#[111, 110, 101]⟩ : ByteArray), .string (⟨#[111, 110, 101]⟩ : ByteArray), .string (⟨#[111, 110, 101]⟩ : ByteArray)] rfl rfl Q0.out (one3 _) (by unfold maxLen; omega) (by omega) KA0.out.fr.size ?_
                    intro l_ z1 p1 p2 p3 p4
                    rw [map3] at p1
                    have K : Hid (Aq w [[(.slice pa lza pc, L1.map Value.string), (l_, (L1 ++ [(⟨#[111, 110, 101]⟩ : ByteArray), (⟨#[111, 110, 101]⟩ : ByteArray), (⟨#[111, 110, 101]⟩ : ByteArray)]).map Value.string)], [(.slice qa lzp qc, L2.map Value.string)], [(.slice sa lza sc, La.map Value.string)], [(.slice va lzp vc, Lp.map Value.string)]] [[(.slice ma mza mc, mls N1)], [(.slice n_a mzp n_c, mls N2)], [(.slice y_a mza y_c, mls Na)], [(.slice oa mzp oc, mls Np)]] [(w.heap.size, lo, hi, .slice a n cap), (w.heap.size + 1, lo', hi', .slice a' n' cap'), (w1.heap.size, xa, ya, .slice pa lza pc), (w2.heap.size, xp, yp, .slice qa lzp qc), (w3.heap.size, xa, ya, .slice sa lza sc), (w4.heap.size, xp, yp, .slice va lzp vc)] z1) := KA0.out.appH (k := 0) rfl p1 p2 p3 p4
                    clear p1 p2 p3 p4 KA0 O0 Q0))
                  clear b21 b22 b23
                  obtain ⟨b31, b32, b33⟩ := (Aq.at K.out (i := 3) rfl).fb
                  have KA1 : Hid (Aq w [[(.slice pa lza pc, L1.map Value.string), (l_, (L1 ++ [(⟨#[111, 110, 101]⟩ : ByteArray), (⟨#[111, 110, 101]⟩ : ByteArray), (⟨#[111, 110, 101]⟩ : ByteArray)]).map Value.string)], [(.slice qa lzp qc, L2.map Value.string)], [(.slice sa lza sc, La.map Value.string)], [(.slice va lzp vc, Lp.map Value.string)]] [[(.slice ma mza mc, mls N1)], [(.slice n_a mzp n_c, mls N2)], [(.slice y_a mza y_c, mls Na)], [(.slice oa mzp oc, mls Np)]] [(w.heap.size, lo, hi, .slice a n cap), (w.heap.size + 1, lo', hi', .slice a' n' cap'), (w1.heap.size, xa, ya, .slice pa lza pc), (w2.heap.size, xp, yp, .slice qa lzp qc), (w3.heap.size, xa, ya, .slice sa lza sc), (w4.heap.size, xp, yp, .slice va lzp vc)] (z1.alloc (.cells #[.string (⟨#[116, 119, 111]⟩ : ByteArray), .string (⟨#[116, 119, 111]⟩ : ByteArray), .string (⟨#[116, 119, 111]⟩ : ByteArray)] 9))) := K.out.later ((Below.refl _ _).alloc (Nat.le_refl _) _)
                  have O1 : Hid ((z1.alloc (.cells #[.string (⟨#[116, 119, 111]⟩ : ByteArray), .string (⟨#[116, 119, 111]⟩ : ByteArray), .string (⟨#[116, 119, 111]⟩ : ByteArray)] 9)).ownsRow w.heap.size 9 1 (.slice qa lzp qc) lzp (L2.map Value.string)) := KA1.out.ownH (k := 1) rfl (List.mem_singleton.2 rfl)
                  have Q1 : Hid (∀ j z, [Value.string (⟨#[116, 119, 111]⟩ : ByteArray), .string (⟨#[116, 119, 111]⟩ : ByteArray), .string (⟨#[116, 119, 111]⟩ : ByteArray)][j]? = some z → (z1.alloc (.cells #[.string (⟨#[116, 119, 111]⟩ : ByteArray), .string (⟨#[116, 119, 111]⟩ : ByteArray), .string (⟨#[116, 119, 111]⟩ : ByteArray)] 9)).cell? ((⟨z1.heap.size, 0, none⟩ : Addr).add j) = some z) := new3S z1 (⟨#[116, 119, 111]⟩ : ByteArray) _
                  clear K
                  go_upto_region 27 with (at_builtin; (
                    refine wpList_appS rfl (.tmp 143) (.tmp 144) 22 rfl w.heap.size 1 9 i9 (.string ByteArray.empty) 16 Tryd.underlying22 II.out.1 II.out.2.1 II.out.2.2.1 II.out.2.2.2 rfl (by decide) _ lzp _ rfl O1.out ⟨z1.heap.size, 0, none⟩ 3 3 [.string (⟨#[116, 119, 111]⟩ : ByteArray), .string (⟨#[116, 119, 111]⟩ : ByteArray), .string (⟨#[116, 119, 111]⟩ : ByteArray)] rfl rfl Q1.out (one3 _) (by unfold maxLen; omega) (by omega) KA1.out.fr.size ?_
                    intro k_ z2 p1 p2 p3 p4
                    rw [map3] at p1
                    have K : Hid (Aq w [[(.slice pa lza pc, L1.map Value.string), (l_, (L1 ++ [(⟨#[111, 110, 101]⟩ : ByteArray), (⟨#[111, 110, 101]⟩ : ByteArray), (⟨#[111, 110, 101]⟩ : ByteArray)]).map Value.string)], [(.slice qa lzp qc, L2.map Value.string), (k_, (L2 ++ [(⟨#[116, 119, 111]⟩ : ByteArray), (⟨#[116, 119, 111]⟩ : ByteArray), (⟨#[116, 119, 111]⟩ : ByteArray)]).map Value.string)], [(.slice sa lza sc, La.map Value.string)], [(.slice va lzp vc, Lp.map Value.string)]] [[(.slice ma mza mc, mls N1)], [(.slice n_a mzp n_c, mls N2)], [(.slice y_a mza y_c, mls Na)], [(.slice oa mzp oc, mls Np)]] [(w.heap.size, lo, hi, .slice a n cap), (w.heap.size + 1, lo', hi', .slice a' n' cap'), (w1.heap.size, xa, ya, .slice pa lza pc), (w2.heap.size, xp, yp, .slice qa lzp qc), (w3.heap.size, xa, ya, .slice sa lza sc), (w4.heap.size, xp, yp, .slice va lzp vc)] z2) := KA1.out.appH (k := 1) rfl p1 p2 p3 p4
                    clear p1 p2 p3 p4 KA1 O1 Q1))
                  clear b31 b32 b33
                  have KA2 : Hid (Aq w [[(.slice pa lza pc, L1.map Value.string), (l_, (L1 ++ [(⟨#[111, 110, 101]⟩ : ByteArray), (⟨#[111, 110, 101]⟩ : ByteArray), (⟨#[111, 110, 101]⟩ : ByteArray)]).map Value.string)], [(.slice qa lzp qc, L2.map Value.string), (k_, (L2 ++ [(⟨#[116, 119, 111]⟩ : ByteArray), (⟨#[116, 119, 111]⟩ : ByteArray), (⟨#[116, 119, 111]⟩ : ByteArray)]).map Value.string)], [(.slice sa lza sc, La.map Value.string)], [(.slice va lzp vc, Lp.map Value.string)]] [[(.slice ma mza mc, mls N1)], [(.slice n_a mzp n_c, mls N2)], [(.slice y_a mza y_c, mls Na)], [(.slice oa mzp oc, mls Np)]] [(w.heap.size, lo, hi, .slice a n cap), (w.heap.size + 1, lo', hi', .slice a' n' cap'), (w1.heap.size, xa, ya, .slice pa lza pc), (w2.heap.size, xp, yp, .slice qa lzp qc), (w3.heap.size, xa, ya, .slice sa lza sc), (w4.heap.size, xp, yp, .slice va lzp vc)] (z2.alloc (.cells #[.int .i64 0, .int .i64 0, .string (⟨#[111, 110, 101]⟩ : ByteArray), .int .i64 0, .int .i64 0, .string (⟨#[111, 110, 101]⟩ : ByteArray)] 38))) := K.out.later ((Below.refl _ _).alloc (Nat.le_refl _) _)
                  have O2 : Hid ((z2.alloc (.cells #[.int .i64 0, .int .i64 0, .string (⟨#[111, 110, 101]⟩ : ByteArray), .int .i64 0, .int .i64 0, .string (⟨#[111, 110, 101]⟩ : ByteArray)] 38)).ownsRow w.heap.size 38 3 (.slice ma mza mc) mza (mls N1)) := KA2.out.ownM (k := 0) rfl (List.mem_singleton.2 rfl)
                  have Q2 : Hid (∀ j z, (mls [((0, 0), (⟨#[111, 110, 101]⟩ : ByteArray)), ((0, 0), (⟨#[111, 110, 101]⟩ : ByteArray))])[j]? = some z → (z2.alloc (.cells #[.int .i64 0, .int .i64 0, .string (⟨#[111, 110, 101]⟩ : ByteArray), .int .i64 0, .int .i64 0, .string (⟨#[111, 110, 101]⟩ : ByteArray)] 38)).cell? ((⟨z2.heap.size, 0, none⟩ : Addr).add j) = some z) := new6M z2 (⟨#[111, 110, 101]⟩ : ByteArray) _
                  clear K
                  go_upto_region 28 with (at_builtin; (
                    refine wpList_appS rfl (.tmp 146) (.tmp 149) 25 rfl w.heap.size 3 38 iM (.agg #[.int .i64 0, .int .i64 0, .string ByteArray.empty]) 32 Tryd.underlying25 JJ.out.1 JJ.out.2.1 JJ.out.2.2.1 JJ.out.2.2.2 rfl (by decide) _ mza _ rfl O2.out ⟨z2.heap.size, 0, none⟩ 2 2 (mls [((0, 0), (⟨#[111, 110, 101]⟩ : ByteArray)), ((0, 0), (⟨#[111, 110, 101]⟩ : ByteArray))]) rfl rfl Q2.out (one6 _) (by unfold maxLen; omega) (by omega) KA2.out.fr.size ?_
                    intro r_ z3 p1 p2 p3 p4
                    rw [← mls_app] at p1
                    have K : Hid (Aq w [[(.slice pa lza pc, L1.map Value.string), (l_, (L1 ++ [(⟨#[111, 110, 101]⟩ : ByteArray), (⟨#[111, 110, 101]⟩ : ByteArray), (⟨#[111, 110, 101]⟩ : ByteArray)]).map Value.string)], [(.slice qa lzp qc, L2.map Value.string), (k_, (L2 ++ [(⟨#[116, 119, 111]⟩ : ByteArray), (⟨#[116, 119, 111]⟩ : ByteArray), (⟨#[116, 119, 111]⟩ : ByteArray)]).map Value.string)], [(.slice sa lza sc, La.map Value.string)], [(.slice va lzp vc, Lp.map Value.string)]] [[(.slice ma mza mc, mls N1), (r_, mls (N1 ++ [((0, 0), (⟨#[111, 110, 101]⟩ : ByteArray)), ((0, 0), (⟨#[111, 110, 101]⟩ : ByteArray))]))], [(.slice n_a mzp n_c, mls N2)], [(.slice y_a mza y_c, mls Na)], [(.slice oa mzp oc, mls Np)]] [(w.heap.size, lo, hi, .slice a n cap), (w.heap.size + 1, lo', hi', .slice a' n' cap'), (w1.heap.size, xa, ya, .slice pa lza pc), (w2.heap.size, xp, yp, .slice qa lzp qc), (w3.heap.size, xa, ya, .slice sa lza sc), (w4.heap.size, xp, yp, .slice va lzp vc)] z3) := KA2.out.appM (k := 0) rfl p1 p2 p3 p4
                    clear p1 p2 p3 p4 KA2 O2 Q2))
                  have KA3 : Hid (Aq w [[(.slice pa lza pc, L1.map Value.string), (l_, (L1 ++ [(⟨#[111, 110, 101]⟩ : ByteArray), (⟨#[111, 110, 101]⟩ : ByteArray), (⟨#[111, 110, 101]⟩ : ByteArray)]).map Value.string)], [(.slice qa lzp qc, L2.map Value.string), (k_, (L2 ++ [(⟨#[116, 119, 111]⟩ : ByteArray), (⟨#[116, 119, 111]⟩ : ByteArray), (⟨#[116, 119, 111]⟩ : ByteArray)]).map Value.string)], [(.slice sa lza sc, La.map Value.string)], [(.slice va lzp vc, Lp.map Value.string)]] [[(.slice ma mza mc, mls N1), (r_, mls (N1 ++ [((0, 0), (⟨#[111, 110, 101]⟩ : ByteArray)), ((0, 0), (⟨#[111, 110, 101]⟩ : ByteArray))]))], [(.slice n_a mzp n_c, mls N2)], [(.slice y_a mza y_c, mls Na)], [(.slice oa mzp oc, mls Np)]] [(w.heap.size, lo, hi, .slice a n cap), (w.heap.size + 1, lo', hi', .slice a' n' cap'), (w1.heap.size, xa, ya, .slice pa lza pc), (w2.heap.size, xp, yp, .slice qa lzp qc), (w3.heap.size, xa, ya, .slice sa lza sc), (w4.heap.size, xp, yp, .slice va lzp vc)] (z3.alloc (.cells #[.int .i64 0, .int .i64 0, .string (⟨#[116, 119, 111]⟩ : ByteArray), .int .i64 0, .int .i64 0, .string (⟨#[116, 119, 111]⟩ : ByteArray)] 38))) := K.out.later ((Below.refl _ _).alloc (Nat.le_refl _) _)
                  have O3 : Hid ((z3.alloc (.cells #[.int .i64 0, .int .i64 0, .string (⟨#[116, 119, 111]⟩ : ByteArray), .int .i64 0, .int .i64 0, .string (⟨#[116, 119, 111]⟩ : ByteArray)] 38)).ownsRow w.heap.size 38 3 (.slice n_a mzp n_c) mzp (mls N2)) := KA3.out.ownM (k := 1) rfl (List.mem_singleton.2 rfl)
                  have Q3 : Hid (∀ j z, (mls [((0, 0), (⟨#[116, 119, 111]⟩ : ByteArray)), ((0, 0), (⟨#[116, 119, 111]⟩ : ByteArray))])[j]? = some z → (z3.alloc (.cells #[.int .i64 0, .int .i64 0, .string (⟨#[116, 119, 111]⟩ : ByteArray), .int .i64 0, .int .i64 0, .string (⟨#[116, 119, 111]⟩ : ByteArray)] 38)).cell? ((⟨z3.heap.size, 0, none⟩ : Addr).add j) = some z) := new6M z3 (⟨#[116, 119, 111]⟩ : ByteArray) _
                  clear K
                  go_upto_region 29 with (at_builtin; (
                    refine wpList_appS rfl (.tmp 151) (.tmp 154) 25 rfl w.heap.size 3 38 iM (.agg #[.int .i64 0, .int .i64 0, .string ByteArray.empty]) 32 Tryd.underlying25 JJ.out.1 JJ.out.2.1 JJ.out.2.2.1 JJ.out.2.2.2 rfl (by decide) _ mzp _ rfl O3.out ⟨z3.heap.size, 0, none⟩ 2 2 (mls [((0, 0), (⟨#[116, 119, 111]⟩ : ByteArray)), ((0, 0), (⟨#[116, 119, 111]⟩ : ByteArray))]) rfl rfl Q3.out (one6 _) (by unfold maxLen; omega) (by omega) KA3.out.fr.size ?_
                    intro s_ z4 p1 p2 p3 p4
                    rw [← mls_app] at p1
                    have K : Hid (Aq w [[(.slice pa lza pc, L1.map Value.string), (l_, (L1 ++ [(⟨#[111, 110, 101]⟩ : ByteArray), (⟨#[111, 110, 101]⟩ : ByteArray), (⟨#[111, 110, 101]⟩ : ByteArray)]).map Value.string)], [(.slice qa lzp qc, L2.map Value.string), (k_, (L2 ++ [(⟨#[116, 119, 111]⟩ : ByteArray), (⟨#[116, 119, 111]⟩ : ByteArray), (⟨#[116, 119, 111]⟩ : ByteArray)]).map Value.string)], [(.slice sa lza sc, La.map Value.string)], [(.slice va lzp vc, Lp.map Value.string)]] [[(.slice ma mza mc, mls N1), (r_, mls (N1 ++ [((0, 0), (⟨#[111, 110, 101]⟩ : ByteArray)), ((0, 0), (⟨#[111, 110, 101]⟩ : ByteArray))]))], [(.slice n_a mzp n_c, mls N2), (s_, mls (N2 ++ [((0, 0), (⟨#[116, 119, 111]⟩ : ByteArray)), ((0, 0), (⟨#[116, 119, 111]⟩ : ByteArray))]))], [(.slice y_a mza y_c, mls Na)], [(.slice oa mzp oc, mls Np)]] [(w.heap.size, lo, hi, .slice a n cap), (w.heap.size + 1, lo', hi', .slice a' n' cap'), (w1.heap.size, xa, ya, .slice pa lza pc), (w2.heap.size, xp, yp, .slice qa lzp qc), (w3.heap.size, xa, ya, .slice sa lza sc), (w4.heap.size, xp, yp, .slice va lzp vc)] z4) := KA3.out.appM (k := 1) rfl p1 p2 p3 p4
                    clear p1 p2 p3 p4 KA3 O3 Q3))
                  obtain ⟨b01, b02, b03⟩ := (Aq.at K.out (i := 0) rfl).fb
                  go_wp2_with fail
                  refine (Ca.out _ K.out.fr).mono ?_
                  rintro e w9 ⟨⟨c_a, c_c, d_a, d_c, rfl, hu, hm⟩, hb⟩
                  have K2 : Hid (Aq w [[(.slice pa lza pc, L1.map Value.string), (l_, (L1 ++ [(⟨#[111, 110, 101]⟩ : ByteArray), (⟨#[111, 110, 101]⟩ : ByteArray), (⟨#[111, 110, 101]⟩ : ByteArray)]).map Value.string)], [(.slice qa lzp qc, L2.map Value.string), (k_, (L2 ++ [(⟨#[116, 119, 111]⟩ : ByteArray), (⟨#[116, 119, 111]⟩ : ByteArray), (⟨#[116, 119, 111]⟩ : ByteArray)]).map Value.string)], [(.slice sa lza sc, La.map Value.string)], [(.slice va lzp vc, Lp.map Value.string)], [(.slice c_a lza c_c, La.map Value.string)]] [[(.slice ma mza mc, mls N1), (r_, mls (N1 ++ [((0, 0), (⟨#[111, 110, 101]⟩ : ByteArray)), ((0, 0), (⟨#[111, 110, 101]⟩ : ByteArray))]))], [(.slice n_a mzp n_c, mls N2), (s_, mls (N2 ++ [((0, 0), (⟨#[116, 119, 111]⟩ : ByteArray)), ((0, 0), (⟨#[116, 119, 111]⟩ : ByteArray))]))], [(.slice y_a mza y_c, mls Na)], [(.slice oa mzp oc, mls Np)], [(.slice d_a mza d_c, mls Na)]] [(w.heap.size, lo, hi, .slice a n cap), (w.heap.size + 1, lo', hi', .slice a' n' cap'), (w1.heap.size, xa, ya, .slice pa lza pc), (w2.heap.size, xp, yp, .slice qa lzp qc), (w3.heap.size, xa, ya, .slice sa lza sc), (w4.heap.size, xp, yp, .slice va lzp vc), (w9.heap.size, xa, ya, .slice c_a lza c_c)] (w9.alloc (.cells #[.int .i64 xa, .int .i64 ya, .slice c_a lza c_c] 24))) := (K.out.add hb hu hm).box xa ya (.slice c_a lza c_c)
                  clear b01 b02 b03
                  clear hu hm hb K
                  have K : Hid (Aq w [[(.slice pa lza pc, L1.map Value.string), (l_, (L1 ++ [(⟨#[111, 110, 101]⟩ : ByteArray), (⟨#[111, 110, 101]⟩ : ByteArray), (⟨#[111, 110, 101]⟩ : ByteArray)]).map Value.string)], [(.slice qa lzp qc, L2.map Value.string), (k_, (L2 ++ [(⟨#[116, 119, 111]⟩ : ByteArray), (⟨#[116, 119, 111]⟩ : ByteArray), (⟨#[116, 119, 111]⟩ : ByteArray)]).map Value.string)], [(.slice sa lza sc, La.map Value.string)], [(.slice va lzp vc, Lp.map Value.string)], [(.slice c_a lza c_c, La.map Value.string)]] [[(.slice ma mza mc, mls N1), (r_, mls (N1 ++ [((0, 0), (⟨#[111, 110, 101]⟩ : ByteArray)), ((0, 0), (⟨#[111, 110, 101]⟩ : ByteArray))]))], [(.slice n_a mzp n_c, mls N2), (s_, mls (N2 ++ [((0, 0), (⟨#[116, 119, 111]⟩ : ByteArray)), ((0, 0), (⟨#[116, 119, 111]⟩ : ByteArray))]))], [(.slice y_a mza y_c, mls Na)], [(.slice oa mzp oc, mls Np)], [(.slice d_a mza d_c, mls Na)]] [(w.heap.size, lo, hi, .slice a n cap), (w.heap.size + 1, lo', hi', .slice a' n' cap'), (w1.heap.size, xa, ya, .slice pa lza pc), (w2.heap.size, xp, yp, .slice qa lzp qc), (w3.heap.size, xa, ya, .slice sa lza sc), (w4.heap.size, xp, yp, .slice va lzp vc), (w9.heap.size, xa, ya, .slice c_a lza c_c)] (w9.alloc (.cells #[.int .i64 xa, .int .i64 ya, .slice c_a lza c_c] 24))) := K2
                  clear K2
                  obtain ⟨b01, b02, b03⟩ := (Aq.at K.out (i := 0) rfl).fb
                  obtain ⟨b11, b12, b13⟩ := (Aq.at K.out (i := 1) rfl).fb
                  go_wp2_with fail
                  refine (Cp.out _ K.out.fr).mono ?_
                  rintro e w10 ⟨⟨e_a, e_c, f_a, f_c, rfl, hu, hm⟩, hb⟩
                  have K2 : Hid (Aq w [[(.slice pa lza pc, L1.map Value.string), (l_, (L1 ++ [(⟨#[111, 110, 101]⟩ : ByteArray), (⟨#[111, 110, 101]⟩ : ByteArray), (⟨#[111, 110, 101]⟩ : ByteArray)]).map Value.string)], [(.slice qa lzp qc, L2.map Value.string), (k_, (L2 ++ [(⟨#[116, 119, 111]⟩ : ByteArray), (⟨#[116, 119, 111]⟩ : ByteArray), (⟨#[116, 119, 111]⟩ : ByteArray)]).map Value.string)], [(.slice sa lza sc, La.map Value.string)], [(.slice va lzp vc, Lp.map Value.string)], [(.slice c_a lza c_c, La.map Value.string)], [(.slice e_a lzp e_c, Lp.map Value.string)]] [[(.slice ma mza mc, mls N1), (r_, mls (N1 ++ [((0, 0), (⟨#[111, 110, 101]⟩ : ByteArray)), ((0, 0), (⟨#[111, 110, 101]⟩ : ByteArray))]))], [(.slice n_a mzp n_c, mls N2), (s_, mls (N2 ++ [((0, 0), (⟨#[116, 119, 111]⟩ : ByteArray)), ((0, 0), (⟨#[116, 119, 111]⟩ : ByteArray))]))], [(.slice y_a mza y_c, mls Na)], [(.slice oa mzp oc, mls Np)], [(.slice d_a mza d_c, mls Na)], [(.slice f_a mzp f_c, mls Np)]] [(w.heap.size, lo, hi, .slice a n cap), (w.heap.size + 1, lo', hi', .slice a' n' cap'), (w1.heap.size, xa, ya, .slice pa lza pc), (w2.heap.size, xp, yp, .slice qa lzp qc), (w3.heap.size, xa, ya, .slice sa lza sc), (w4.heap.size, xp, yp, .slice va lzp vc), (w9.heap.size, xa, ya, .slice c_a lza c_c), (w10.heap.size, xp, yp, .slice e_a lzp e_c)] (w10.alloc (.cells #[.int .i64 xp, .int .i64 yp, .slice e_a lzp e_c] 24))) := (K.out.add hb hu hm).box xp yp (.slice e_a lzp e_c)
                  clear b01 b02 b03 b11 b12 b13
                  clear hu hm hb K
                  have K : Hid (Aq w [[(.slice pa lza pc, L1.map Value.string), (l_, (L1 ++ [(⟨#[111, 110, 101]⟩ : ByteArray), (⟨#[111, 110, 101]⟩ : ByteArray), (⟨#[111, 110, 101]⟩ : ByteArray)]).map Value.string)], [(.slice qa lzp qc, L2.map Value.string), (k_, (L2 ++ [(⟨#[116, 119, 111]⟩ : ByteArray), (⟨#[116, 119, 111]⟩ : ByteArray), (⟨#[116, 119, 111]⟩ : ByteArray)]).map Value.string)], [(.slice sa lza sc, La.map Value.string)], [(.slice va lzp vc, Lp.map Value.string)], [(.slice c_a lza c_c, La.map Value.string)], [(.slice e_a lzp e_c, Lp.map Value.string)]] [[(.slice ma mza mc, mls N1), (r_, mls (N1 ++ [((0, 0), (⟨#[111, 110, 101]⟩ : ByteArray)), ((0, 0), (⟨#[111, 110, 101]⟩ : ByteArray))]))], [(.slice n_a mzp n_c, mls N2), (s_, mls (N2 ++ [((0, 0), (⟨#[116, 119, 111]⟩ : ByteArray)), ((0, 0), (⟨#[116, 119, 111]⟩ : ByteArray))]))], [(.slice y_a mza y_c, mls Na)], [(.slice oa mzp oc, mls Np)], [(.slice d_a mza d_c, mls Na)], [(.slice f_a mzp f_c, mls Np)]] [(w.heap.size, lo, hi, .slice a n cap), (w.heap.size + 1, lo', hi', .slice a' n' cap'), (w1.heap.size, xa, ya, .slice pa lza pc), (w2.heap.size, xp, yp, .slice qa lzp qc), (w3.heap.size, xa, ya, .slice sa lza sc), (w4.heap.size, xp, yp, .slice va lzp vc), (w9.heap.size, xa, ya, .slice c_a lza c_c), (w10.heap.size, xp, yp, .slice e_a lzp e_c)] (w10.alloc (.cells #[.int .i64 xp, .int .i64 yp, .slice e_a lzp e_c] 24))) := K2
                  clear K2
                  obtain ⟨b61, b62, b63⟩ := (Aq.at K.out (i := 6) rfl).fb
                  obtain ⟨b41, b42, b43⟩ := (Aq.at K.out (i := 4) rfl).fb
                  have CS : Hid (Calls _ _ _ _ _) := same_yes xa ya (.slice c_a lza c_c) (.slice sa lza sc) La _ (K.out.readH (k := 4) rfl (List.mem_singleton.2 rfl)) (K.out.readH (k := 2) rfl (List.mem_singleton.2 rfl)) (by have := HLa.out.1; omega)
                  go_wp2_with fail
                  refine CS.out.mono ?_
                  rintro e w11 ⟨rfl, hb⟩
                  have K2 : Hid (Aq w [[(.slice pa lza pc, L1.map Value.string), (l_, (L1 ++ [(⟨#[111, 110, 101]⟩ : ByteArray), (⟨#[111, 110, 101]⟩ : ByteArray), (⟨#[111, 110, 101]⟩ : ByteArray)]).map Value.string)], [(.slice qa lzp qc, L2.map Value.string), (k_, (L2 ++ [(⟨#[116, 119, 111]⟩ : ByteArray), (⟨#[116, 119, 111]⟩ : ByteArray), (⟨#[116, 119, 111]⟩ : ByteArray)]).map Value.string)], [(.slice sa lza sc, La.map Value.string)], [(.slice va lzp vc, Lp.map Value.string)], [(.slice c_a lza c_c, La.map Value.string)], [(.slice e_a lzp e_c, Lp.map Value.string)]] [[(.slice ma mza mc, mls N1), (r_, mls (N1 ++ [((0, 0), (⟨#[111, 110, 101]⟩ : ByteArray)), ((0, 0), (⟨#[111, 110, 101]⟩ : ByteArray))]))], [(.slice n_a mzp n_c, mls N2), (s_, mls (N2 ++ [((0, 0), (⟨#[116, 119, 111]⟩ : ByteArray)), ((0, 0), (⟨#[116, 119, 111]⟩ : ByteArray))]))], [(.slice y_a mza y_c, mls Na)], [(.slice oa mzp oc, mls Np)], [(.slice d_a mza d_c, mls Na)], [(.slice f_a mzp f_c, mls Np)]] [(w.heap.size, lo, hi, .slice a n cap), (w.heap.size + 1, lo', hi', .slice a' n' cap'), (w1.heap.size, xa, ya, .slice pa lza pc), (w2.heap.size, xp, yp, .slice qa lzp qc), (w3.heap.size, xa, ya, .slice sa lza sc), (w4.heap.size, xp, yp, .slice va lzp vc), (w9.heap.size, xa, ya, .slice c_a lza c_c), (w10.heap.size, xp, yp, .slice e_a lzp e_c)] w11) := K.out.later hb
                  clear hb CS K
                  clear b61 b62 b63 b41 b42 b43
                  have K : Hid (Aq w [[(.slice pa lza pc, L1.map Value.string), (l_, (L1 ++ [(⟨#[111, 110, 101]⟩ : ByteArray), (⟨#[111, 110, 101]⟩ : ByteArray), (⟨#[111, 110, 101]⟩ : ByteArray)]).map Value.string)], [(.slice qa lzp qc, L2.map Value.string), (k_, (L2 ++ [(⟨#[116, 119, 111]⟩ : ByteArray), (⟨#[116, 119, 111]⟩ : ByteArray), (⟨#[116, 119, 111]⟩ : ByteArray)]).map Value.string)], [(.slice sa lza sc, La.map Value.string)], [(.slice va lzp vc, Lp.map Value.string)], [(.slice c_a lza c_c, La.map Value.string)], [(.slice e_a lzp e_c, Lp.map Value.string)]] [[(.slice ma mza mc, mls N1), (r_, mls (N1 ++ [((0, 0), (⟨#[111, 110, 101]⟩ : ByteArray)), ((0, 0), (⟨#[111, 110, 101]⟩ : ByteArray))]))], [(.slice n_a mzp n_c, mls N2), (s_, mls (N2 ++ [((0, 0), (⟨#[116, 119, 111]⟩ : ByteArray)), ((0, 0), (⟨#[116, 119, 111]⟩ : ByteArray))]))], [(.slice y_a mza y_c, mls Na)], [(.slice oa mzp oc, mls Np)], [(.slice d_a mza d_c, mls Na)], [(.slice f_a mzp f_c, mls Np)]] [(w.heap.size, lo, hi, .slice a n cap), (w.heap.size + 1, lo', hi', .slice a' n' cap'), (w1.heap.size, xa, ya, .slice pa lza pc), (w2.heap.size, xp, yp, .slice qa lzp qc), (w3.heap.size, xa, ya, .slice sa lza sc), (w4.heap.size, xp, yp, .slice va lzp vc), (w9.heap.size, xa, ya, .slice c_a lza c_c), (w10.heap.size, xp, yp, .slice e_a lzp e_c)] w11) := K2
                  clear K2
                  have CM : Hid (Calls _ _ _ _ _) := rs.sameM_yes (.slice d_a mza d_c) (.slice y_a mza y_c) Na w11 (K.out.readM (k := 4) rfl (List.mem_singleton.2 rfl)) (K.out.readM (k := 2) rfl (List.mem_singleton.2 rfl)) (by have := HLa.out.2; omega)
                  go_wp2_with fail
                  refine CM.out.mono ?_
                  rintro e w12 ⟨rfl, hb⟩
                  have K2 : Hid (Aq w [[(.slice pa lza pc, L1.map Value.string), (l_, (L1 ++ [(⟨#[111, 110, 101]⟩ : ByteArray), (⟨#[111, 110, 101]⟩ : ByteArray), (⟨#[111, 110, 101]⟩ : ByteArray)]).map Value.string)], [(.slice qa lzp qc, L2.map Value.string), (k_, (L2 ++ [(⟨#[116, 119, 111]⟩ : ByteArray), (⟨#[116, 119, 111]⟩ : ByteArray), (⟨#[116, 119, 111]⟩ : ByteArray)]).map Value.string)], [(.slice sa lza sc, La.map Value.string)], [(.slice va lzp vc, Lp.map Value.string)], [(.slice c_a lza c_c, La.map Value.string)], [(.slice e_a lzp e_c, Lp.map Value.string)]] [[(.slice ma mza mc, mls N1), (r_, mls (N1 ++ [((0, 0), (⟨#[111, 110, 101]⟩ : ByteArray)), ((0, 0), (⟨#[111, 110, 101]⟩ : ByteArray))]))], [(.slice n_a mzp n_c, mls N2), (s_, mls (N2 ++ [((0, 0), (⟨#[116, 119, 111]⟩ : ByteArray)), ((0, 0), (⟨#[116, 119, 111]⟩ : ByteArray))]))], [(.slice y_a mza y_c, mls Na)], [(.slice oa mzp oc, mls Np)], [(.slice d_a mza d_c, mls Na)], [(.slice f_a mzp f_c, mls Np)]] [(w.heap.size, lo, hi, .slice a n cap), (w.heap.size + 1, lo', hi', .slice a' n' cap'), (w1.heap.size, xa, ya, .slice pa lza pc), (w2.heap.size, xp, yp, .slice qa lzp qc), (w3.heap.size, xa, ya, .slice sa lza sc), (w4.heap.size, xp, yp, .slice va lzp vc), (w9.heap.size, xa, ya, .slice c_a lza c_c), (w10.heap.size, xp, yp, .slice e_a lzp e_c)] w12) := K.out.later hb
                  clear hb CM K
                  have K : Hid (Aq w [[(.slice pa lza pc, L1.map Value.string), (l_, (L1 ++ [(⟨#[111, 110, 101]⟩ : ByteArray), (⟨#[111, 110, 101]⟩ : ByteArray), (⟨#[111, 110, 101]⟩ : ByteArray)]).map Value.string)], [(.slice qa lzp qc, L2.map Value.string), (k_, (L2 ++ [(⟨#[116, 119, 111]⟩ : ByteArray), (⟨#[116, 119, 111]⟩ : ByteArray), (⟨#[116, 119, 111]⟩ : ByteArray)]).map Value.string)], [(.slice sa lza sc, La.map Value.string)], [(.slice va lzp vc, Lp.map Value.string)], [(.slice c_a lza c_c, La.map Value.string)], [(.slice e_a lzp e_c, Lp.map Value.string)]] [[(.slice ma mza mc, mls N1), (r_, mls (N1 ++ [((0, 0), (⟨#[111, 110, 101]⟩ : ByteArray)), ((0, 0), (⟨#[111, 110, 101]⟩ : ByteArray))]))], [(.slice n_a mzp n_c, mls N2), (s_, mls (N2 ++ [((0, 0), (⟨#[116, 119, 111]⟩ : ByteArray)), ((0, 0), (⟨#[116, 119, 111]⟩ : ByteArray))]))], [(.slice y_a mza y_c, mls Na)], [(.slice oa mzp oc, mls Np)], [(.slice d_a mza d_c, mls Na)], [(.slice f_a mzp f_c, mls Np)]] [(w.heap.size, lo, hi, .slice a n cap), (w.heap.size + 1, lo', hi', .slice a' n' cap'), (w1.heap.size, xa, ya, .slice pa lza pc), (w2.heap.size, xp, yp, .slice qa lzp qc), (w3.heap.size, xa, ya, .slice sa lza sc), (w4.heap.size, xp, yp, .slice va lzp vc), (w9.heap.size, xa, ya, .slice c_a lza c_c), (w10.heap.size, xp, yp, .slice e_a lzp e_c)] w12) := K2
                  clear K2
                  obtain ⟨b71, b72, b73⟩ := (Aq.at K.out (i := 7) rfl).fb
                  obtain ⟨b51, b52, b53⟩ := (Aq.at K.out (i := 5) rfl).fb
                  have CS : Hid (Calls _ _ _ _ _) := same_yes xp yp (.slice e_a lzp e_c) (.slice va lzp vc) Lp _ (K.out.readH (k := 5) rfl (List.mem_singleton.2 rfl)) (K.out.readH (k := 3) rfl (List.mem_singleton.2 rfl)) (by have := HLp.out.1; omega)
                  go_wp2_with fail
                  refine CS.out.mono ?_
                  rintro e w13 ⟨rfl, hb⟩
                  have K2 : Hid (Aq w [[(.slice pa lza pc, L1.map Value.string), (l_, (L1 ++ [(⟨#[111, 110, 101]⟩ : ByteArray), (⟨#[111, 110, 101]⟩ : ByteArray), (⟨#[111, 110, 101]⟩ : ByteArray)]).map Value.string)], [(.slice qa lzp qc, L2.map Value.string), (k_, (L2 ++ [(⟨#[116, 119, 111]⟩ : ByteArray), (⟨#[116, 119, 111]⟩ : ByteArray), (⟨#[116, 119, 111]⟩ : ByteArray)]).map Value.string)], [(.slice sa lza sc, La.map Value.string)], [(.slice va lzp vc, Lp.map Value.string)], [(.slice c_a lza c_c, La.map Value.string)], [(.slice e_a lzp e_c, Lp.map Value.string)]] [[(.slice ma mza mc, mls N1), (r_, mls (N1 ++ [((0, 0), (⟨#[111, 110, 101]⟩ : ByteArray)), ((0, 0), (⟨#[111, 110, 101]⟩ : ByteArray))]))], [(.slice n_a mzp n_c, mls N2), (s_, mls (N2 ++ [((0, 0), (⟨#[116, 119, 111]⟩ : ByteArray)), ((0, 0), (⟨#[116, 119, 111]⟩ : ByteArray))]))], [(.slice y_a mza y_c, mls Na)], [(.slice oa mzp oc, mls Np)], [(.slice d_a mza d_c, mls Na)], [(.slice f_a mzp f_c, mls Np)]] [(w.heap.size, lo, hi, .slice a n cap), (w.heap.size + 1, lo', hi', .slice a' n' cap'), (w1.heap.size, xa, ya, .slice pa lza pc), (w2.heap.size, xp, yp, .slice qa lzp qc), (w3.heap.size, xa, ya, .slice sa lza sc), (w4.heap.size, xp, yp, .slice va lzp vc), (w9.heap.size, xa, ya, .slice c_a lza c_c), (w10.heap.size, xp, yp, .slice e_a lzp e_c)] w13) := K.out.later hb
                  clear hb CS K
                  clear b71 b72 b73 b51 b52 b53
                  have K : Hid (Aq w [[(.slice pa lza pc, L1.map Value.string), (l_, (L1 ++ [(⟨#[111, 110, 101]⟩ : ByteArray), (⟨#[111, 110, 101]⟩ : ByteArray), (⟨#[111, 110, 101]⟩ : ByteArray)]).map Value.string)], [(.slice qa lzp qc, L2.map Value.string), (k_, (L2 ++ [(⟨#[116, 119, 111]⟩ : ByteArray), (⟨#[116, 119, 111]⟩ : ByteArray), (⟨#[116, 119, 111]⟩ : ByteArray)]).map Value.string)], [(.slice sa lza sc, La.map Value.string)], [(.slice va lzp vc, Lp.map Value.string)], [(.slice c_a lza c_c, La.map Value.string)], [(.slice e_a lzp e_c, Lp.map Value.string)]] [[(.slice ma mza mc, mls N1), (r_, mls (N1 ++ [((0, 0), (⟨#[111, 110, 101]⟩ : ByteArray)), ((0, 0), (⟨#[111, 110, 101]⟩ : ByteArray))]))], [(.slice n_a mzp n_c, mls N2), (s_, mls (N2 ++ [((0, 0), (⟨#[116, 119, 111]⟩ : ByteArray)), ((0, 0), (⟨#[116, 119, 111]⟩ : ByteArray))]))], [(.slice y_a mza y_c, mls Na)], [(.slice oa mzp oc, mls Np)], [(.slice d_a mza d_c, mls Na)], [(.slice f_a mzp f_c, mls Np)]] [(w.heap.size, lo, hi, .slice a n cap), (w.heap.size + 1, lo', hi', .slice a' n' cap'), (w1.heap.size, xa, ya, .slice pa lza pc), (w2.heap.size, xp, yp, .slice qa lzp qc), (w3.heap.size, xa, ya, .slice sa lza sc), (w4.heap.size, xp, yp, .slice va lzp vc), (w9.heap.size, xa, ya, .slice c_a lza c_c), (w10.heap.size, xp, yp, .slice e_a lzp e_c)] w13) := K2
                  clear K2
                  have CM : Hid (Calls _ _ _ _ _) := rs.sameM_yes (.slice f_a mzp f_c) (.slice oa mzp oc) Np w13 (K.out.readM (k := 5) rfl (List.mem_singleton.2 rfl)) (K.out.readM (k := 3) rfl (List.mem_singleton.2 rfl)) (by have := HLp.out.2; omega)
                  go_wp2_with fail
                  refine CM.out.mono ?_
                  rintro e w14 ⟨rfl, hb⟩
                  have K2 : Hid (Aq w [[(.slice pa lza pc, L1.map Value.string), (l_, (L1 ++ [(⟨#[111, 110, 101]⟩ : ByteArray), (⟨#[111, 110, 101]⟩ : ByteArray), (⟨#[111, 110, 101]⟩ : ByteArray)]).map Value.string)], [(.slice qa lzp qc, L2.map Value.string), (k_, (L2 ++ [(⟨#[116, 119, 111]⟩ : ByteArray), (⟨#[116, 119, 111]⟩ : ByteArray), (⟨#[116, 119, 111]⟩ : ByteArray)]).map Value.string)], [(.slice sa lza sc, La.map Value.string)], [(.slice va lzp vc, Lp.map Value.string)], [(.slice c_a lza c_c, La.map Value.string)], [(.slice e_a lzp e_c, Lp.map Value.string)]] [[(.slice ma mza mc, mls N1), (r_, mls (N1 ++ [((0, 0), (⟨#[111, 110, 101]⟩ : ByteArray)), ((0, 0), (⟨#[111, 110, 101]⟩ : ByteArray))]))], [(.slice n_a mzp n_c, mls N2), (s_, mls (N2 ++ [((0, 0), (⟨#[116, 119, 111]⟩ : ByteArray)), ((0, 0), (⟨#[116, 119, 111]⟩ : ByteArray))]))], [(.slice y_a mza y_c, mls Na)], [(.slice oa mzp oc, mls Np)], [(.slice d_a mza d_c, mls Na)], [(.slice f_a mzp f_c, mls Np)]] [(w.heap.size, lo, hi, .slice a n cap), (w.heap.size + 1, lo', hi', .slice a' n' cap'), (w1.heap.size, xa, ya, .slice pa lza pc), (w2.heap.size, xp, yp, .slice qa lzp qc), (w3.heap.size, xa, ya, .slice sa lza sc), (w4.heap.size, xp, yp, .slice va lzp vc), (w9.heap.size, xa, ya, .slice c_a lza c_c), (w10.heap.size, xp, yp, .slice e_a lzp e_c)] w14) := K.out.later hb
                  clear hb CM K
                  have K : Hid (Aq w [[(.slice pa lza pc, L1.map Value.string), (l_, (L1 ++ [(⟨#[111, 110, 101]⟩ : ByteArray), (⟨#[111, 110, 101]⟩ : ByteArray), (⟨#[111, 110, 101]⟩ : ByteArray)]).map Value.string)], [(.slice qa lzp qc, L2.map Value.string), (k_, (L2 ++ [(⟨#[116, 119, 111]⟩ : ByteArray), (⟨#[116, 119, 111]⟩ : ByteArray), (⟨#[116, 119, 111]⟩ : ByteArray)]).map Value.string)], [(.slice sa lza sc, La.map Value.string)], [(.slice va lzp vc, Lp.map Value.string)], [(.slice c_a lza c_c, La.map Value.string)], [(.slice e_a lzp e_c, Lp.map Value.string)]] [[(.slice ma mza mc, mls N1), (r_, mls (N1 ++ [((0, 0), (⟨#[111, 110, 101]⟩ : ByteArray)), ((0, 0), (⟨#[111, 110, 101]⟩ : ByteArray))]))], [(.slice n_a mzp n_c, mls N2), (s_, mls (N2 ++ [((0, 0), (⟨#[116, 119, 111]⟩ : ByteArray)), ((0, 0), (⟨#[116, 119, 111]⟩ : ByteArray))]))], [(.slice y_a mza y_c, mls Na)], [(.slice oa mzp oc, mls Np)], [(.slice d_a mza d_c, mls Na)], [(.slice f_a mzp f_c, mls Np)]] [(w.heap.size, lo, hi, .slice a n cap), (w.heap.size + 1, lo', hi', .slice a' n' cap'), (w1.heap.size, xa, ya, .slice pa lza pc), (w2.heap.size, xp, yp, .slice qa lzp qc), (w3.heap.size, xa, ya, .slice sa lza sc), (w4.heap.size, xp, yp, .slice va lzp vc), (w9.heap.size, xa, ya, .slice c_a lza c_c), (w10.heap.size, xp, yp, .slice e_a lzp e_c)] w14) := K2
                  clear K2
                  obtain ⟨b21, b22, b23⟩ := (Aq.at K.out (i := 2) rfl).fb
                  have CK : Hid (Calls _ _ _ _ _) := markedY (.slice pa lza pc) (.slice ma mza mc) L1 N1 (⟨#[111, 110, 101]⟩ : ByteArray) w14 (K.out.readH (k := 0) rfl List.mem_cons_self) (K.out.readM (k := 0) rfl List.mem_cons_self) HML1.out.2 HMN1.out.2 (by have := HML1.out.1; (try simp only [List.length_append, List.length_cons, List.length_nil]); omega) (by have := HMN1.out.1; (try simp only [List.length_append, List.length_cons, List.length_nil]); omega)
                  go_wp2_with fail
                  refine CK.out.mono ?_
                  rintro e wz ⟨rfl, hz⟩
                  rw [hz]
                  clear hz CK
                  clear b21 b22 b23
                  have CK : Hid (Calls _ _ _ _ _) := markedY l_ r_ (L1 ++ [(⟨#[111, 110, 101]⟩ : ByteArray), (⟨#[111, 110, 101]⟩ : ByteArray), (⟨#[111, 110, 101]⟩ : ByteArray)]) (N1 ++ [((0, 0), (⟨#[111, 110, 101]⟩ : ByteArray)), ((0, 0), (⟨#[111, 110, 101]⟩ : ByteArray))]) (⟨#[111, 110, 101]⟩ : ByteArray) w14 (K.out.readH (k := 0) rfl (List.mem_cons_of_mem _ (List.mem_singleton.2 rfl))) (K.out.readM (k := 0) rfl (List.mem_cons_of_mem _ (List.mem_singleton.2 rfl))) (all_app HML1.out.2 (by intro z hz; simp at hz; exact hz)) (all_app (P := fun z : Md => z.2 = (⟨#[111, 110, 101]⟩ : ByteArray)) HMN1.out.2 (by intro z hz; simp at hz; rw [hz])) (by have := HML1.out.1; (try simp only [List.length_append, List.length_cons, List.length_nil]); omega) (by have := HMN1.out.1; (try simp only [List.length_append, List.length_cons, List.length_nil]); omega)
                  go_wp2_with fail
                  refine CK.out.mono ?_
                  rintro e wz ⟨rfl, hz⟩
                  rw [hz]
                  clear hz CK
                  obtain ⟨b31, b32, b33⟩ := (Aq.at K.out (i := 3) rfl).fb
                  have CK : Hid (Calls _ _ _ _ _) := markedY (.slice qa lzp qc) (.slice n_a mzp n_c) L2 N2 (⟨#[116, 119, 111]⟩ : ByteArray) w14 (K.out.readH (k := 1) rfl List.mem_cons_self) (K.out.readM (k := 1) rfl List.mem_cons_self) HML2.out.2 HMN2.out.2 (by have := HML2.out.1; (try simp only [List.length_append, List.length_cons, List.length_nil]); omega) (by have := HMN2.out.1; (try simp only [List.length_append, List.length_cons, List.length_nil]); omega)
                  go_wp2_with fail
                  refine CK.out.mono ?_
                  rintro e wz ⟨rfl, hz⟩
                  rw [hz]
                  clear hz CK
                  clear b31 b32 b33
                  have CK : Hid (Calls _ _ _ _ _) := markedY k_ s_ (L2 ++ [(⟨#[116, 119, 111]⟩ : ByteArray), (⟨#[116, 119, 111]⟩ : ByteArray), (⟨#[116, 119, 111]⟩ : ByteArray)]) (N2 ++ [((0, 0), (⟨#[116, 119, 111]⟩ : ByteArray)), ((0, 0), (⟨#[116, 119, 111]⟩ : ByteArray))]) (⟨#[116, 119, 111]⟩ : ByteArray) w14 (K.out.readH (k := 1) rfl (List.mem_cons_of_mem _ (List.mem_singleton.2 rfl))) (K.out.readM (k := 1) rfl (List.mem_cons_of_mem _ (List.mem_singleton.2 rfl))) (all_app HML2.out.2 (by intro z hz; simp at hz; exact hz)) (all_app (P := fun z : Md => z.2 = (⟨#[116, 119, 111]⟩ : ByteArray)) HMN2.out.2 (by intro z hz; simp at hz; rw [hz])) (by have := HML2.out.1; (try simp only [List.length_append, List.length_cons, List.length_nil]); omega) (by have := HMN2.out.1; (try simp only [List.length_append, List.length_cons, List.length_nil]); omega)
                  go_wp2_with fail
                  refine CK.out.mono ?_
                  rintro e wz ⟨rfl, hz⟩
                  rw [hz]
                  clear hz CK
                  obtain ⟨b01, b02, b03⟩ := (Aq.at K.out (i := 0) rfl).fb
                  obtain ⟨b11, b12, b13⟩ := (Aq.at K.out (i := 1) rfl).fb
                  go_wp2_with fail
                  refine (HK.out _ K.out.fr).mono ?_
                  rintro e w_e ⟨rfl, hb⟩
                  have B9 : Hid (Below w.heap.size w w_e) := over K.out.fr hb
                  clear hb HK K
                  clear b01 b02 b03 b11 b12 b13
                  go_wp2
                  go_ret
                  exact ⟨rfl, B9.out⟩
end Go.Proofs.YtmmbkfagchaocaaDoor.s12
