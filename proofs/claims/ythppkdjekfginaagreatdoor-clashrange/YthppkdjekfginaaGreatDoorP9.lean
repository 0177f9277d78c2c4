import Derived.Test.YthppkdjekfginaaGreatDoorP8
import Derived.Test.YthppkdjekfginaaGreatDoorP2
import Derived.Test.YthppkdjekfginaaGreatDoorP4
import Derived.Test.YthppkdjekfginaaGreatDoorG4
namespace Go.Proofs.YthppkdjekfginaaGreatDoor.jr
open Go.RowKit Go.PlainAid
open Go.Proofs.YthppkdjekfginaaGreatDoor.pl Go.Proofs.YthppkdjekfginaaGreatDoor.pi Go.Proofs.YthppkdjekfginaaGreatDoor.pj Go.Proofs.YthppkdjekfginaaGreatDoor.rf Go.Proofs.YthppkdjekfginaaGreatDoor.lk Go.Proofs.YthppkdjekfginaaGreatDoor.ul Go.Proofs.YthppkdjekfginaaGreatDoor.um Go.Proofs.YthppkdjekfginaaGreatDoor.un Go.Proofs.YthppkdjekfginaaGreatDoor.ca Go.Proofs.YthppkdjekfginaaGreatDoor.cb Go.Proofs.YthppkdjekfginaaGreatDoor.cp Go.Proofs.YthppkdjekfginaaGreatDoor.cv Go.Proofs.YthppkdjekfginaaGreatDoor.gb Go.Proofs.YthppkdjekfginaaGreatDoor.ka Go.Proofs.YthppkdjekfginaaGreatDoor.kb Go.Proofs.YthppkdjekfginaaGreatDoor.kp Go.Proofs.YthppkdjekfginaaGreatDoor.qa Go.Proofs.YthppkdjekfginaaGreatDoor.mi Go.Proofs.YthppkdjekfginaaGreatDoor.uk Go.Proofs.YthppkdjekfginaaGreatDoor.uq Go.Proofs.YthppkdjekfginaaGreatDoor.yb Go.Proofs.YthppkdjekfginaaGreatDoor.yc Go.Proofs.YthppkdjekfginaaGreatDoor.yd Go.Proofs.YthppkdjekfginaaGreatDoor.yh Go.Proofs.YthppkdjekfginaaGreatDoor.jt Go.Proofs.YthppkdjekfginaaGreatDoor.vd Go.Proofs.YthppkdjekfginaaGreatDoor.ve
set_option linter.unusedVariables false

theorem eqC (a b : ByteArray) (c : Bool) (w : World) : (binOp .eql 26 (.agg #[.string a, .string b, .bool c]) (.agg #[.string a, .string b, .bool c])).run Tryz.prog w = .ok (.bool true) w := by
  cases c <;> simp [go_sem]
set_option maxRecDepth 100000 in
set_option maxHeartbeats 12800000 in
theorem range_walk (w : World) (wd : Int) (w0 : (Lit.int .i64 wd).wf = true) (vl : Value) (xs : List ByteArray) (hl : ReadsT w vl xs) (hln : ∀ k c, vl = .slice none k c → c = 0) (hls : ∀ x ∈ xs, x.size ≤ 140737488351232) (hlm : xs.length * 16 ≤ 140737488351232) (i : Int) (w2 : (Lit.int .i64 i).wf = true) (vc : Value) (cs : List ByteArray) (hc : ReadsT w vc cs) (hcn : ∀ k c, vc = .slice none k c → c = 0) (hcs : ∀ x ∈ cs, x.size ≤ 140737488351232) (hcm : cs.length * 16 ≤ 140737488351232) (vp : Value) (ps : List ByteArray) (hp : ReadsT w vp ps) (hpn : ∀ k c, vp = .slice none k c → c = 0) (hps : ∀ x ∈ ps, x.size ≤ 140737488351232) (hpm : ps.length * 16 ≤ 140737488351232) (hT : Tab4 w) :
    Calls Tryz.prog 4 #[.int .i64 wd, vl, .int .i64 i, vc, vp] w fun e w' => e = .returned (.bool true) ∧ Below w.heap.size w w' := by
  have hwd := i64_of w0
  have hi := i64_of w2
  have fl : Fits xs := ⟨fun x h => Nat.le_trans (hls x h) (by decide), hlm⟩
  have fc : Fits cs := ⟨fun x h => Nat.le_trans (hcs x h) (by decide), hcm⟩
  have fp : Fits ps := ⟨fun x h => Nat.le_trans (hps x h) (by decide), hpm⟩
  have TL : Hid (Calls _ _ _ _ _) := twin vl xs w hl fl
  have TC : Hid (∀ W, Below w.heap.size w W → Calls _ _ _ _ _) := fun W b => twin vc cs W (hc.later b) fc
  have TP : Hid (∀ W, Below w.heap.size w W → Calls _ _ _ _ _) := fun W b => twin vp ps W (hp.later b) fp
  have OT : Hid (∀ g n cp ys W, TwinR W w.heap.size g n cp ys → ys.length = n → n ≤ 140737488355328 → Calls _ _ _ _ _) := fun g n cp ys W h1 h2 h3 => other w.heap.size g n cp ys W h1 h2 h3
  have BL : Hid (∀ g cp ys W, Below w.heap.size w W → TwinR W w.heap.size g xs.length cp ys → ys.length = xs.length → Calls _ _ _ _ _) := fun g cp ys W b h1 h2 => back w.heap.size g xs.length cp vl xs ys W ((Old.of hl).keep (Kp.of_below (A := no) b) (fun _ e => e.elim)) h1 h2 rfl (by omega)
  have BC : Hid (∀ g cp ys W, Below w.heap.size w W → TwinR W w.heap.size g cs.length cp ys → ys.length = cs.length → Calls _ _ _ _ _) := fun g cp ys W b h1 h2 => back w.heap.size g cs.length cp vc cs ys W ((Old.of hc).keep (Kp.of_below (A := no) b) (fun _ e => e.elim)) h1 h2 rfl (by omega)
  have BP : Hid (∀ g cp ys W, Below w.heap.size w W → TwinR W w.heap.size g ps.length cp ys → ys.length = ps.length → Calls _ _ _ _ _) := fun g cp ys W b h1 h2 => back w.heap.size g ps.length cp vp ps ys W ((Old.of hp).keep (Kp.of_below (A := no) b) (fun _ e => e.elim)) h1 h2 rfl (by omega)
  have KC : Hid (∀ v1 z1 v2 z2 v3 z3 W, Below w.heap.size w W → ReadsT W v1 z1 → ReadsT W v2 z2 → ReadsT W v3 z3 → Fits z1 → Fits z2 → z3.length ≤ 140737488355328 → Calls _ _ _ _ _) := fun v1 z1 v2 z2 v3 z3 W b h1 h2 h3 h6 h7 h8 => kRangeC wd i hwd hi v1 z1 v2 z2 v3 z3 W h1 h2 h3 h6 h7 h8 (hT.down b).t
  have XC : Hid (∀ W, Below w.heap.size w W → Calls _ _ _ _ _) := fun W b => Go.Proofs.YthppkdjekfginaaGreatDoor.jd.xRange wd i hi vl xs vc cs vp ps W (hl.later b) (hc.later b) (hp.later b) fl fc (by omega) (hT.down b)
  have KL : Hid (∀ g cp W, TwinR W w.heap.size g xs.length cp xs → Below w.heap.size w W → Calls _ _ _ _ _) := fun g cp W h b => kept_yes w.heap.size g cp vl xs xs.length W rfl h (hl.later b) (by omega)
  have KD : Hid (∀ g cp W, TwinR W w.heap.size g cs.length cp cs → Below w.heap.size w W → Calls _ _ _ _ _) := fun g cp W h b => kept_yes w.heap.size g cp vc cs cs.length W rfl h (hc.later b) (by omega)
  have KP : Hid (∀ g cp W, TwinR W w.heap.size g ps.length cp ps → Below w.heap.size w W → Calls _ _ _ _ _) := fun g cp W h b => kept_yes w.heap.size g cp vp ps ps.length W rfl h (hp.later b) (by omega)
  have FX : Hid (Fits xs ∧ Fits cs ∧ Fits (othL xs.length) ∧ Fits (othL cs.length)) := ⟨fl, fc, oth_fits _ hlm, oth_fits _ hcm⟩
  have FN : Hid (xs.length ≤ 140737488355328 ∧ cs.length ≤ 140737488355328 ∧ ps.length ≤ 140737488355328) := ⟨by omega, by omega, by omega⟩
  have FO : Hid ((othL xs.length).length = xs.length ∧ (othL cs.length).length = cs.length ∧ (othL ps.length).length = ps.length) := ⟨othL_len _, othL_len _, othL_len _⟩
  obtain ⟨lqa, lqc, rfl, _⟩ := hl
  obtain ⟨cqa, cqc, rfl, _⟩ := hc
  obtain ⟨pqa, pqc, rfl, _⟩ := hp
  obtain ⟨O, HO⟩ : ∃ O, Hid (rangeX wd i xs cs ps = O) := ⟨_, rfl⟩
  rw [HO.out] at XC
  obtain ⟨o1, o2, o3, hgo⟩ := clV_of O
  rw [hgo] at XC
  obtain ⟨n, HN⟩ : ∃ n, Hid (xs.length = n) := ⟨_, rfl⟩
  obtain ⟨m, HM⟩ : ∃ n, Hid (cs.length = n) := ⟨_, rfl⟩
  obtain ⟨k, HK⟩ : ∃ n, Hid (ps.length = n) := ⟨_, rfl⟩
  rw [HN.out] at TL BL XC KL FX FN FO ⊢
  rw [HM.out] at TC BC XC KD FX FN FO ⊢
  rw [HK.out] at TP BP XC KP FN FO ⊢
  have HOG : Hid (clV O = .agg #[.string o1, .string o2, .bool o3]) := hgo
  have qe := fun w' => eqC o1 o2 o3 w'
  clear w0 hls hlm hcs hcm hps hpm hpn hln hcn hwd fl fc fp hT hgo w2 hi
  go_enter Tryz.func4, Tryz.ntmps4
  go_wp2_with fail
  refine TL.out.mono ?_
  rintro e w1 ⟨⟨g1, c1, rfl, t1⟩, hb1⟩
  have B1 : Hid (Below w.heap.size w w1) := hb1
  have T1 : Hid (TwinR w1 w.heap.size g1 n c1 xs) := t1
  clear t1 hb1
  go_wp2_with fail
  refine (TC.out _ B1.out).mono ?_
  rintro e w2 ⟨⟨g2, c2, rfl, t2⟩, hb2⟩
  have B2 : Hid (Below w.heap.size w w2) := over B1.out hb2
  have T2 : Hid (TwinR w2 w.heap.size g1 n c1 xs ∧ TwinR w2 w.heap.size g2 m c2 cs ∧ g1 ≠ g2) := ⟨twin_later T1.out hb2, own_down t2 B1.out.size, by have h1 := (twin_base T1.out).2; have h2 := (twin_base t2).1; omega⟩
  clear t2 hb2
  go_wp2_with fail
  refine (TP.out _ B2.out).mono ?_
  rintro e w3 ⟨⟨g3, c3, rfl, t3⟩, hb3⟩
  have S : Stq g1 g2 g3 (fun _ => True) := ⟨fun _ _ => trivial, fun _ _ _ => trivial⟩
  have HS : Hid (Stq g1 g2 g3 (fun _ => True)) := S
  clear S
  have Z0 : Hid (Ty (fun _ => True) w g1 n c1 xs g2 m c2 cs g3 k c3 ps w3) := ⟨over B2.out hb3, twin_later T2.out.1 hb3, twin_later T2.out.2.1 hb3, own_down t3 B2.out.size, T2.out.2.2, by have h1 := (twin_base T2.out.1).2; have h2 := (twin_base t3).1; omega, by have h1 := (twin_base T2.out.2.1).2; have h2 := (twin_base t3).1; omega, trivial⟩
  clear t3 hb3
  go_wp2_with fail
  refine (OT.out _ _ _ _ _ Z0.out.t1 HN.out FN.out.1).mono ?_
  rintro e v10 ⟨rfl, tq, kq⟩
  have Z1 : Hid (Ty (fun _ => True) w g1 n c1 (othL n) g2 m c2 cs g3 k c3 ps v10) := Z0.out.fst HS.out tq kq
  clear tq kq
  have K1 : Hid (Calls _ _ _ _ _) := KC.out _ _ _ _ _ _ _ Z1.out.fr (twin_reads Z1.out.t1 FO.out.1) (twin_reads Z1.out.t2 HM.out) (twin_reads Z1.out.t3 HK.out) FX.out.2.2.1 FX.out.2.1 (by have h1 := FN.out.2.2; have h2 := HK.out; omega)
  go_wp2_with fail
  refine K1.out.mono ?_
  rintro e v11 ⟨rfl, hbq⟩
  have Z2 : Hid (Ty (fun _ => True) w g1 n c1 (othL n) g2 m c2 cs g3 k c3 ps v11) := Z1.out.later HS.out hbq
  clear hbq
  go_wp2_with fail
  refine (BL.out _ _ _ _ Z2.out.fr Z2.out.t1 FO.out.1).mono ?_
  rintro e v12 ⟨rfl, tq, kq⟩
  have Z3 : Hid (Ty (fun _ => True) w g1 n c1 xs g2 m c2 cs g3 k c3 ps v12) := Z2.out.fst HS.out tq kq
  clear tq kq
  go_wp2_with fail
  refine (OT.out _ _ _ _ _ Z3.out.t2 HM.out FN.out.2.1).mono ?_
  rintro e v13 ⟨rfl, tq, kq⟩
  have Z4 : Hid (Ty (fun _ => True) w g1 n c1 xs g2 m c2 (othL m) g3 k c3 ps v13) := Z3.out.snd HS.out tq kq
  clear tq kq
  go_wp2_with fail
  refine (OT.out _ _ _ _ _ Z4.out.t3 HK.out FN.out.2.2).mono ?_
  rintro e v14 ⟨rfl, tq, kq⟩
  have Z5 : Hid (Ty (fun _ => True) w g1 n c1 xs g2 m c2 (othL m) g3 k c3 (othL k) v14) := Z4.out.trd HS.out tq kq
  clear tq kq
  have K5 : Hid (Calls _ _ _ _ _) := KC.out _ _ _ _ _ _ _ Z5.out.fr (twin_reads Z5.out.t1 HN.out) (twin_reads Z5.out.t2 FO.out.2.1) (twin_reads Z5.out.t3 FO.out.2.2) FX.out.1 FX.out.2.2.2 (by have h1 := FN.out.2.2; have h2 := FO.out.2.2; omega)
  go_wp2_with fail
  refine K5.out.mono ?_
  rintro e v15 ⟨rfl, hbq⟩
  have Z6 : Hid (Ty (fun _ => True) w g1 n c1 xs g2 m c2 (othL m) g3 k c3 (othL k) v15) := Z5.out.later HS.out hbq
  clear hbq
  go_wp2_with fail
  refine (BC.out _ _ _ _ Z6.out.fr Z6.out.t2 FO.out.2.1).mono ?_
  rintro e v16 ⟨rfl, tq, kq⟩
  have Z7 : Hid (Ty (fun _ => True) w g1 n c1 xs g2 m c2 cs g3 k c3 (othL k) v16) := Z6.out.snd HS.out tq kq
  clear tq kq
  go_wp2_with fail
  refine (BP.out _ _ _ _ Z7.out.fr Z7.out.t3 FO.out.2.2).mono ?_
  rintro e v17 ⟨rfl, tq, kq⟩
  have Z8 : Hid (Ty (fun _ => True) w g1 n c1 xs g2 m c2 cs g3 k c3 ps v17) := Z7.out.trd HS.out tq kq
  clear tq kq
  have K8 : Hid (Calls _ _ _ _ _) := KC.out _ _ _ _ _ _ _ Z8.out.fr (twin_reads Z8.out.t1 HN.out) (twin_reads Z8.out.t2 HM.out) (twin_reads Z8.out.t3 HK.out) FX.out.1 FX.out.2.1 (by have h1 := FN.out.2.2; have h2 := HK.out; omega)
  rw [HO.out, HOG.out] at K8
  go_wp2_with fail
  refine K8.out.mono ?_
  rintro e v18 ⟨rfl, hbq⟩
  have BA : Below v18.heap.size v18 (v18.alloc (.cells #[.string o1, .string o2, .bool o3] 26)) := (Below.refl _ _).alloc (Nat.le_refl _) _
  have Z9 : Hid (Ty (fun _ => True) w g1 n c1 xs g2 m c2 cs g3 k c3 ps (v18.alloc (.cells #[.string o1, .string o2, .bool o3] 26)) ∧ (v18.alloc (.cells #[.string o1, .string o2, .bool o3] 26)).heap[v18.heap.size]? = some (.cells #[.string o1, .string o2, .bool o3] 26 (0, 0))) := ⟨(Z8.out.later HS.out hbq).later HS.out BA, heap_alloc_new v18 _⟩
  clear hbq BA
  go_wp2_with fail
  refine (XC.out _ Z9.out.1.fr).mono ?_
  rintro e u1 ⟨rfl, hu1⟩
  have BU : Below u1.heap.size u1 (u1.alloc (.cells #[.string o1, .string o2, .bool o3] 26)) := (Below.refl _ _).alloc (Nat.le_refl _) _
  have ZU : Hid (Ty (fun _ => True) w g1 n c1 xs g2 m c2 cs g3 k c3 ps (u1.alloc (.cells #[.string o1, .string o2, .bool o3] 26)) ∧ (u1.alloc (.cells #[.string o1, .string o2, .bool o3] 26)).heap[v18.heap.size]? = some (.cells #[.string o1, .string o2, .bool o3] 26 (0, 0)) ∧ (u1.alloc (.cells #[.string o1, .string o2, .bool o3] 26)).heap[u1.heap.size]? = some (.cells #[.string o1, .string o2, .bool o3] 26 (0, 0))) :=
    ⟨(Z9.out.1.later HS.out hu1).later HS.out BU, (BU.block _ (Nat.lt_of_lt_of_le (Array.getElem?_eq_some_iff.1 Z9.out.2).1 hu1.size)).trans ((hu1.block _ (Array.getElem?_eq_some_iff.1 Z9.out.2).1).trans Z9.out.2), heap_alloc_new u1 _⟩
  clear hu1 BU
  go_wp2_with fail
  refine (KL.out _ _ _ ZU.out.1.t1 ZU.out.1.fr).mono ?_
  rintro e u2 ⟨rfl, mq, hq⟩
  have Yu2 : Hid (Below (u1.alloc (.cells #[.string o1, .string o2, .bool o3] 26)).heap.size (u1.alloc (.cells #[.string o1, .string o2, .bool o3] 26)) u2) := by show Below _ _ _; rw [hq]; exact below_dN (Below.refl _ _) _
  clear hq
  go_wp2_with fail
  refine (KD.out _ _ _ (ZU.out.1.later HS.out Yu2.out).t2 (ZU.out.1.later HS.out Yu2.out).fr).mono ?_
  rintro e u3 ⟨rfl, mq, hq⟩
  have Yu3 : Hid (Below (u1.alloc (.cells #[.string o1, .string o2, .bool o3] 26)).heap.size (u1.alloc (.cells #[.string o1, .string o2, .bool o3] 26)) u3) := by show Below _ _ _; rw [hq]; exact below_dN Yu2.out _
  clear hq
  go_wp2_with fail
  refine (KP.out _ _ _ (ZU.out.1.later HS.out Yu3.out).t3 (ZU.out.1.later HS.out Yu3.out).fr).mono ?_
  rintro e u4 ⟨rfl, mq, hq⟩
  have Yu4 : Hid (Below (u1.alloc (.cells #[.string o1, .string o2, .bool o3] 26)).heap.size (u1.alloc (.cells #[.string o1, .string o2, .bool o3] 26)) u4) := by show Below _ _ _; rw [hq]; exact below_dN Yu3.out _
  clear hq
  have r1 : u4.heap[v18.heap.size]? = some (.cells #[.string o1, .string o2, .bool o3] 26 (0, 0)) := (Yu4.out.block _ (Array.getElem?_eq_some_iff.1 ZU.out.2.1).1).trans ZU.out.2.1
  have r2 : u4.heap[u1.heap.size]? = some (.cells #[.string o1, .string o2, .bool o3] 26 (0, 0)) := (Yu4.out.block _ (Array.getElem?_eq_some_iff.1 ZU.out.2.2).1).trans ZU.out.2.2
  have a0 : u4.cell? ⟨v18.heap.size, 0, none⟩ = some (.string o1) := cell_of_row _ _ 0 _ _ _ r1
  have a1 : u4.cell? ⟨v18.heap.size, 1, none⟩ = some (.string o2) := cell_of_row _ _ 1 _ _ _ r1
  have a2 : u4.cell? ⟨v18.heap.size, 2, none⟩ = some (.bool o3) := cell_of_row _ _ 2 _ _ _ r1
  have a3 : u4.cell? ⟨u1.heap.size, 0, none⟩ = some (.string o1) := cell_of_row _ _ 0 _ _ _ r2
  have a4 : u4.cell? ⟨u1.heap.size, 1, none⟩ = some (.string o2) := cell_of_row _ _ 1 _ _ _ r2
  have a5 : u4.cell? ⟨u1.heap.size, 2, none⟩ = some (.bool o3) := cell_of_row _ _ 2 _ _ _ r2
  have FIN : Hid (Below w.heap.size w u4) := (ZU.out.1.later HS.out Yu4.out).fr
  clear r1 r2
  go_wp2
  go_ret
  exact ⟨by first | rfl | simp, FIN.out⟩
end Go.Proofs.YthppkdjekfginaaGreatDoor.jr
