import Derived.Test.YthppkdjekfginaaGreatDoorO5
import Derived.Test.YthppkdjekfginaaGreatDoorY1
import Derived.Test.YthppkdjekfginaaGreatDoorO3
import Derived.Test.YthppkdjekfginaaGreatDoorG4
namespace Go.Proofs.YthppkdjekfginaaGreatDoor.jn
open Go.RowKit Go.PlainAid
open Go.Proofs.YthppkdjekfginaaGreatDoor.pl Go.Proofs.YthppkdjekfginaaGreatDoor.pi Go.Proofs.YthppkdjekfginaaGreatDoor.pj Go.Proofs.YthppkdjekfginaaGreatDoor.rf Go.Proofs.YthppkdjekfginaaGreatDoor.lk Go.Proofs.YthppkdjekfginaaGreatDoor.ul Go.Proofs.YthppkdjekfginaaGreatDoor.um Go.Proofs.YthppkdjekfginaaGreatDoor.un Go.Proofs.YthppkdjekfginaaGreatDoor.ca Go.Proofs.YthppkdjekfginaaGreatDoor.cb Go.Proofs.YthppkdjekfginaaGreatDoor.cp Go.Proofs.YthppkdjekfginaaGreatDoor.cv Go.Proofs.YthppkdjekfginaaGreatDoor.gb Go.Proofs.YthppkdjekfginaaGreatDoor.ka Go.Proofs.YthppkdjekfginaaGreatDoor.kb Go.Proofs.YthppkdjekfginaaGreatDoor.kp Go.Proofs.YthppkdjekfginaaGreatDoor.qa Go.Proofs.YthppkdjekfginaaGreatDoor.uk Go.Proofs.YthppkdjekfginaaGreatDoor.uq Go.Proofs.YthppkdjekfginaaGreatDoor.ur Go.Proofs.YthppkdjekfginaaGreatDoor.yb Go.Proofs.YthppkdjekfginaaGreatDoor.yc Go.Proofs.YthppkdjekfginaaGreatDoor.yd Go.Proofs.YthppkdjekfginaaGreatDoor.yh Go.Proofs.YthppkdjekfginaaGreatDoor.oc
set_option linter.unusedVariables false

theorem eqC (a b : ByteArray) (c : Bool) (w : World) : (binOp .eql 26 (.agg #[.string a, .string b, .bool c]) (.agg #[.string a, .string b, .bool c])).run Tryz.prog w = .ok (.bool true) w := by
  cases c <;> simp [go_sem]
set_option maxRecDepth 100000 in
set_option maxHeartbeats 12800000 in
theorem old_walk (w : World) (wd : Int) (w0 : (Lit.int .i64 wd).wf = true) (vl : Value) (xs : List ByteArray) (hl : ReadsT w vl xs) (hno : ∀ k c, vl = .slice none k c → c = 0) (hxs : ∀ x ∈ xs, x.size ≤ 140737488351232) (hxm : xs.length * 16 ≤ 140737488351232) (i : Int) (w2 : (Lit.int .i64 i).wf = true) (leaf : ByteArray) (zl : leaf.size ≤ 140737488351232) (vp : Value) (path : List ByteArray) (hp : ReadsT w vp path) (hpn : ∀ k c, vp = .slice none k c → c = 0) (hps : ∀ x ∈ path, x.size ≤ 140737488351232) (hpm : path.length * 16 ≤ 140737488351232) (hT : Tab4 w) :
    Calls Tryz.prog 3 #[.int .i64 wd, vl, .int .i64 i, .string leaf, vp] w fun e w' => e = .returned (.bool true) ∧ Below w.heap.size w w' := by
  have hwd := i64_of w0
  have hi := i64_of w2
  have hx : Fits xs := ⟨fun x h => Nat.le_trans (hxs x h) (by decide), hxm⟩
  have hq : Fits path := ⟨fun x h => Nat.le_trans (hps x h) (by decide), hpm⟩
  have hz : leaf.size ≤ 140737488352000 := by omega
  have TC : Hid (Calls _ _ _ _ _) := twin vl xs w hl hx
  have TP : Hid (∀ W, Below w.heap.size w W → Calls _ _ _ _ _) := fun W b => twin vp path W (hp.later b) hq
  have OT : Hid (∀ g n cp ys W, TwinR W w.heap.size g n cp ys → ys.length = n → n ≤ 140737488355328 → Calls _ _ _ _ _) := fun g n cp ys W h1 h2 h3 => other w.heap.size g n cp ys W h1 h2 h3
  have BL : Hid (∀ g cp ys W, Below w.heap.size w W → TwinR W w.heap.size g xs.length cp ys → ys.length = xs.length → Calls _ _ _ _ _) := fun g cp ys W b h1 h2 => back w.heap.size g xs.length cp vl xs ys W ((Old.of hl).keep (Kp.of_below (A := no) b) (fun _ e => e.elim)) h1 h2 rfl (by omega)
  have BP : Hid (∀ g cp ys W, Below w.heap.size w W → TwinR W w.heap.size g path.length cp ys → ys.length = path.length → Calls _ _ _ _ _) := fun g cp ys W b h1 h2 => back w.heap.size g path.length cp vp path ys W ((Old.of hp).keep (Kp.of_below (A := no) b) (fun _ e => e.elim)) h1 h2 rfl (by omega)
  have KC : Hid (∀ v1 z1 v2 z2 W, Below w.heap.size w W → ReadsT W v1 z1 → ReadsT W v2 z2 → Fits z1 → z2.length ≤ 140737488355328 → (∀ k c, v1 = .slice none k c → c = 0) → Calls _ _ _ _ _) := fun v1 z1 v2 z2 W b h1 h2 h3 h4 hn => kOldC wd i hwd v1 z1 leaf v2 z2 W h1 hn h2 h3 h4 (hT.down b).t
  have XC : Hid (∀ W, Below w.heap.size w W → Calls _ _ _ _ _) := fun W b => Go.Proofs.YthppkdjekfginaaGreatDoor.jl.xOld wd i vl xs leaf vp path W (hl.later b) hno (hp.later b) hx (by omega) (hT.down b)
  have KL : Hid (∀ g cp W, TwinR W w.heap.size g xs.length cp xs → Below w.heap.size w W → Calls _ _ _ _ _) := fun g cp W h b => kept_yes w.heap.size g cp vl xs xs.length W rfl h (hl.later b) (by omega)
  have KP : Hid (∀ g cp W, TwinR W w.heap.size g path.length cp path → Below w.heap.size w W → Calls _ _ _ _ _) := fun g cp W h b => kept_yes w.heap.size g cp vp path path.length W rfl h (hp.later b) (by omega)
  have FX : Hid (Fits xs ∧ Fits (othL xs.length) ∧ xs.length ≤ 140737488355328 ∧ path.length ≤ 140737488355328 ∧ (othL path.length).length = path.length ∧ (othL xs.length).length = xs.length) := ⟨hx, oth_fits _ hxm, by omega, by omega, othL_len _, othL_len _⟩
  obtain ⟨la, lc, rfl, _⟩ := hl
  obtain ⟨pa, pc, rfl, _⟩ := hp
  obtain ⟨O, HO⟩ : ∃ O, Hid (oldX wd i xs leaf path = O) := ⟨_, rfl⟩
  rw [HO.out] at XC
  obtain ⟨o1, o2, o3, hgo⟩ := clV_of O
  rw [hgo] at XC
  obtain ⟨n, HN⟩ : ∃ n, Hid (xs.length = n) := ⟨_, rfl⟩
  obtain ⟨k, HK⟩ : ∃ n, Hid (path.length = n) := ⟨_, rfl⟩
  rw [HN.out] at TC BL XC KL FX ⊢
  rw [HK.out] at TP BP XC KP FX ⊢
  have HOG : Hid (clV O = .agg #[.string o1, .string o2, .bool o3]) := hgo
  have qe := fun w' => eqC o1 o2 o3 w'
  clear w0 w2 hxs hxm hps hpm hpn hno hwd hi hx hq hz hT zl hgo
  go_enter Tryz.func3, Tryz.ntmps3
  go_wp2_with fail
  refine TC.out.mono ?_
  rintro e w1 ⟨⟨g1, c1, rfl, t1⟩, hb1⟩
  have B1 : Hid (Below w.heap.size w w1) := hb1
  have T1 : Hid (TwinR w1 w.heap.size g1 n c1 xs) := t1
  clear t1 hb1
  go_wp2_with fail
  refine (TP.out _ B1.out).mono ?_
  rintro e w2 ⟨⟨g2, c2, rfl, t2⟩, hb2⟩
  have Z2 : Hid (Tz w g1 n c1 xs g2 k c2 path w2) := ⟨over B1.out hb2, twin_later T1.out hb2, own_down t2 B1.out.size, by have h1 := (twin_base T1.out).2; have h2 := (twin_base t2).1; omega⟩
  clear t2 hb2
  go_wp2_with fail
  refine (OT.out _ _ _ _ _ Z2.out.t1 HN.out FX.out.2.2.1).mono ?_
  rintro e w3 ⟨rfl, t3, k3⟩
  have Z3 : Hid (Tz w g1 n c1 (othL n) g2 k c2 path w3) := Z2.out.fst t3 k3
  clear t3 k3
  have K3 : Hid (Calls _ _ _ _ _) := KC.out _ _ _ _ w3 Z3.out.fr (twin_reads Z3.out.t1 FX.out.2.2.2.2.2) (twin_reads Z3.out.t2 HK.out) FX.out.2.1 (by have := HK.out; have := FX.out.2.2.2.1; omega) (fun k c e => by injection e with e _ _; exact absurd e (fun h => by cases h))
  go_wp2_with fail
  refine K3.out.mono ?_
  rintro e w4 ⟨rfl, hb4⟩
  have Z4 : Hid (Tz w g1 n c1 (othL n) g2 k c2 path w4) := Z3.out.later hb4
  clear hb4
  go_wp2_with fail
  refine (BL.out _ _ _ _ Z4.out.fr Z4.out.t1 FX.out.2.2.2.2.2).mono ?_
  rintro e w5 ⟨rfl, t5, k5⟩
  have Z5 : Hid (Tz w g1 n c1 xs g2 k c2 path w5) := Z4.out.fst t5 k5
  clear t5 k5
  go_wp2_with fail
  refine (OT.out _ _ _ _ _ Z5.out.t2 HK.out FX.out.2.2.2.1).mono ?_
  rintro e w6 ⟨rfl, t6, k6⟩
  have Z6 : Hid (Tz w g1 n c1 xs g2 k c2 (othL k) w6) := Z5.out.snd t6 k6
  clear t6 k6
  have K6 : Hid (Calls _ _ _ _ _) := KC.out _ _ _ _ w6 Z6.out.fr (twin_reads Z6.out.t1 HN.out) (twin_reads Z6.out.t2 FX.out.2.2.2.2.1) FX.out.1 (by have := FX.out.2.2.2.2.1; have := FX.out.2.2.2.1; omega) (fun k c e => by injection e with e _ _; exact absurd e (fun h => by cases h))
  go_wp2_with fail
  refine K6.out.mono ?_
  rintro e w7 ⟨rfl, hb7⟩
  have Z7 : Hid (Tz w g1 n c1 xs g2 k c2 (othL k) w7) := Z6.out.later hb7
  clear hb7
  go_wp2_with fail
  refine (BP.out _ _ _ _ Z7.out.fr Z7.out.t2 FX.out.2.2.2.2.1).mono ?_
  rintro e w8 ⟨rfl, t8, k8⟩
  have Z8 : Hid (Tz w g1 n c1 xs g2 k c2 path w8) := Z7.out.snd t8 k8
  clear t8 k8
  have K8 : Hid (Calls _ _ _ _ _) := KC.out _ _ _ _ w8 Z8.out.fr (twin_reads Z8.out.t1 HN.out) (twin_reads Z8.out.t2 HK.out) FX.out.1 (by have := HK.out; have := FX.out.2.2.2.1; omega) (fun k c e => by injection e with e _ _; exact absurd e (fun h => by cases h))
  rw [HO.out, HOG.out] at K8
  go_wp2_with fail
  refine K8.out.mono ?_
  rintro e w9 ⟨rfl, hb9⟩
  have BA : Below w9.heap.size w9 (w9.alloc (.cells #[.string o1, .string o2, .bool o3] 26)) := (Below.refl _ _).alloc (Nat.le_refl _) _
  have Z9 : Hid (Tz w g1 n c1 xs g2 k c2 path (w9.alloc (.cells #[.string o1, .string o2, .bool o3] 26)) ∧ (w9.alloc (.cells #[.string o1, .string o2, .bool o3] 26)).heap[w9.heap.size]? = some (.cells #[.string o1, .string o2, .bool o3] 26 (0, 0))) := ⟨(Z8.out.later hb9).later BA, heap_alloc_new w9 _⟩
  clear hb9 BA
  go_wp2_with fail
  refine (XC.out _ Z9.out.1.fr).mono ?_
  rintro e u1 ⟨rfl, hu1⟩
  have BU : Below u1.heap.size u1 (u1.alloc (.cells #[.string o1, .string o2, .bool o3] 26)) := (Below.refl _ _).alloc (Nat.le_refl _) _
  have ZU : Hid (Tz w g1 n c1 xs g2 k c2 path (u1.alloc (.cells #[.string o1, .string o2, .bool o3] 26)) ∧ (u1.alloc (.cells #[.string o1, .string o2, .bool o3] 26)).heap[w9.heap.size]? = some (.cells #[.string o1, .string o2, .bool o3] 26 (0, 0)) ∧ (u1.alloc (.cells #[.string o1, .string o2, .bool o3] 26)).heap[u1.heap.size]? = some (.cells #[.string o1, .string o2, .bool o3] 26 (0, 0))) :=
    ⟨(Z9.out.1.later hu1).later BU, (BU.block _ (Nat.lt_of_lt_of_le (Array.getElem?_eq_some_iff.1 Z9.out.2).1 hu1.size)).trans ((hu1.block _ (Array.getElem?_eq_some_iff.1 Z9.out.2).1).trans Z9.out.2), heap_alloc_new u1 _⟩
  clear hu1 BU
  go_wp2_with fail
  refine (KL.out _ _ _ ZU.out.1.t1 ZU.out.1.fr).mono ?_
  rintro e u2 ⟨rfl, m2, hu2⟩
  have Y2 : Hid (Below (u1.alloc (.cells #[.string o1, .string o2, .bool o3] 26)).heap.size (u1.alloc (.cells #[.string o1, .string o2, .bool o3] 26)) u2) := by show Below _ _ _; rw [hu2]; exact below_dN (Below.refl _ _) _
  clear hu2
  go_wp2_with fail
  refine (KP.out _ _ _ (ZU.out.1.later Y2.out).t2 (ZU.out.1.later Y2.out).fr).mono ?_
  rintro e u3 ⟨rfl, m3, hu3⟩
  have Y3 : Hid (Below (u1.alloc (.cells #[.string o1, .string o2, .bool o3] 26)).heap.size (u1.alloc (.cells #[.string o1, .string o2, .bool o3] 26)) u3) := by show Below _ _ _; rw [hu3]; exact below_dN Y2.out _
  clear hu3
  have r1 : u3.heap[w9.heap.size]? = some (.cells #[.string o1, .string o2, .bool o3] 26 (0, 0)) := (Y3.out.block _ (Array.getElem?_eq_some_iff.1 ZU.out.2.1).1).trans ZU.out.2.1
  have r2 : u3.heap[u1.heap.size]? = some (.cells #[.string o1, .string o2, .bool o3] 26 (0, 0)) := (Y3.out.block _ (Array.getElem?_eq_some_iff.1 ZU.out.2.2).1).trans ZU.out.2.2
  have a0 : u3.cell? ⟨w9.heap.size, 0, none⟩ = some (.string o1) := cell_of_row _ _ 0 _ _ _ r1
  have a1 : u3.cell? ⟨w9.heap.size, 1, none⟩ = some (.string o2) := cell_of_row _ _ 1 _ _ _ r1
  have a2 : u3.cell? ⟨w9.heap.size, 2, none⟩ = some (.bool o3) := cell_of_row _ _ 2 _ _ _ r1
  have a3 : u3.cell? ⟨u1.heap.size, 0, none⟩ = some (.string o1) := cell_of_row _ _ 0 _ _ _ r2
  have a4 : u3.cell? ⟨u1.heap.size, 1, none⟩ = some (.string o2) := cell_of_row _ _ 1 _ _ _ r2
  have a5 : u3.cell? ⟨u1.heap.size, 2, none⟩ = some (.bool o3) := cell_of_row _ _ 2 _ _ _ r2
  have FIN : Hid (Below w.heap.size w u3) := (ZU.out.1.later Y3.out).fr
  clear r1 r2
  go_wp2
  go_ret
  exact ⟨by first | rfl | simp, FIN.out⟩
end Go.Proofs.YthppkdjekfginaaGreatDoor.jn
