import Derived.Test.YtajfcddabkhamaaDoorY16
import Derived.Test.YtajfcddabkhamaaDoorY8
import Derived.Deep.RegionHeldLaw
import Derived.Test.YtajfcddabkhamaaDoorY5
import Derived.Test.YtajfcddabkhamaaDoorY4
import Derived.Test.YtajfcddabkhamaaDoorRows
import Derived.Test.YtajfcddabkhamaaDoorY6
import Derived.Lib.LaidTab
import Derived.ProofKit
import Derived.LaidMore
import Derived.OpenShut
import Derived.Stop.Joined
import Derived.Stop.LaidErr
namespace Go.Proofs.YtajfcddabkhamaaDoor.v8
open Go.RowKit Go.PlainAid Go.Shelf
open Go.Proofs.YtajfcddabkhamaaDoor.pl Go.Proofs.YtajfcddabkhamaaDoor.pi Go.Proofs.YtajfcddabkhamaaDoor.rf Go.Proofs.YtajfcddabkhamaaDoor.pj Go.Proofs.YtajfcddabkhamaaDoor.ca Go.Proofs.YtajfcddabkhamaaDoor.cb Go.Proofs.YtajfcddabkhamaaDoor.cp Go.Proofs.YtajfcddabkhamaaDoor.cs Go.Proofs.YtajfcddabkhamaaDoor.xc Go.Proofs.YtajfcddabkhamaaDoor.ka Go.Proofs.YtajfcddabkhamaaDoor.kb Go.Proofs.YtajfcddabkhamaaDoor.ga Go.Proofs.YtajfcddabkhamaaDoor.aa Go.Proofs.YtajfcddabkhamaaDoor.ab Go.Proofs.YtajfcddabkhamaaDoor.tb Go.Proofs.YtajfcddabkhamaaDoor.ac Go.Proofs.YtajfcddabkhamaaDoor.bc Go.Proofs.YtajfcddabkhamaaDoor.bd Go.Proofs.YtajfcddabkhamaaDoor.a2 Go.Proofs.YtajfcddabkhamaaDoor.v1 Go.Proofs.YtajfcddabkhamaaDoor.v2 Go.Proofs.YtajfcddabkhamaaDoor.v3 Go.Proofs.YtajfcddabkhamaaDoor.v4 Go.Proofs.YtajfcddabkhamaaDoor.v7 Go.Proofs.YtajfcddabkhamaaDoor.sg Go.Proofs.YtajfcddabkhamaaDoor.sh Go.Proofs.YtajfcddabkhamaaDoor.sp Go.Proofs.YtajfcddabkhamaaDoor.tej Go.Proofs.YtajfcddabkhamaaDoor.hs Go.Proofs.YtajfcddabkhamaaDoor.hd Go.Proofs.YtajfcddabkhamaaDoor.sa Go.Proofs.YtajfcddabkhamaaDoor.sb Go.Proofs.YtajfcddabkhamaaDoor.sc Go.Proofs.YtajfcddabkhamaaDoor.sd Go.Proofs.YtajfcddabkhamaaDoor.se Go.Proofs.YtajfcddabkhamaaDoor.sf
set_option linter.unusedVariables false

theorem num23 (x : Int) (w : World) : Calls Tryd.prog 8 #[.int .i64 x] w fun e w' => e = .returned (.int .i64 x) ∧ w' = w := by
  go_enter Tryd.func8, Tryd.ntmps8
  go_wp2
  go_ret
  exact ⟨rfl, rfl⟩
set_option maxHeartbeats 1600000 in
theorem addrsC (a1 a2 : Option Addr) (c1 c2 : Nat) (l : List (Nat × Nat)) (w : World) (hl : l.length ≤ 4294967296) (r1 : ReadsA w (.slice a1 l.length c1) l) (r2 : ReadsA w (.slice a2 l.length c2) l) :
    Calls Tryd.prog 9 #[.slice a1 l.length c1, .slice a2 l.length c2] w fun e w' => e = .returned (.bool true) ∧ ∃ m, w' = w.drewN m := by
  have HR1 : Hid (ReadsA w (.slice a1 l.length c1) l) := r1
  have HR2 : Hid (ReadsA w (.slice a2 l.length c2) l) := r2
  obtain ⟨n, HN⟩ : ∃ n, Hid (l.length = n) := ⟨_, rfl⟩
  rw [HN.out] at HR1 HR2 hl ⊢
  have qn : ((n : Int) == (n : Int)) = true := beq_self_eq_true _
  clear r1 r2
  go_enter Tryd.func9, Tryd.ntmps9
  go_wp2
  go_loopw [5] (fun i wr => ∃ k m : Nat, k ≤ n ∧ i = .int .i64 k ∧ wr = w.drewN m) (fun i _ => (n - intOf i).toNat)
  case atStart => exact ⟨0, 0, by omega, rfl, rfl⟩
  case round =>
    obtain ⟨k, m, hk, rfl, rfl⟩ := hrel
    by_cases hlt : k < n
    · have hlt' : (k : Int) < n := by omega
      have hkl : k < l.length := by rw [HN.out]; exact hlt
      obtain ⟨x, hx⟩ : ∃ x, l[k]? = some x := ⟨_, List.getElem?_eq_getElem hkl⟩
      obtain ⟨b1, rfl, c11, c12⟩ := row_at HR1.out (k := x.1) (i := x.2) hx
      obtain ⟨b2, rfl, c21, c22⟩ := row_at HR2.out (k := x.1) (i := x.2) hx
      have qq := fun w => eqA (x.1 : Int) (x.2 : Int) (x.1 : Int) (x.2 : Int) w
      simp only [beq_self_eq_true, Bool.and_self, Bool.not_true] at qq
      clear hx
      go_wp2_with fail
      go_quiet (fail)
      go_wp2
      go_roundw
      case rel => exact ⟨k + 1, _, by omega, by go_num, rfl⟩
      case measure => simp [intOf]; omega
    · have hlt' : ¬ (k : Int) < n := by omega
      go_wp2
      go_ret
      exact ⟨rfl, _, rfl⟩
theorem SJ.asked {s : Src} {sb : Nat} {lv : Value} {base : Nat} {F : Nat → Prop} {l : List (Nat × Nat)} {w : World} (h : SJ s sb lv base F l w) : ∃ a c, w.cell? ⟨sb, 6, none⟩ = some (.slice a l.length c) ∧ ReadsA w (.slice a l.length c) l := by
  obtain ⟨av, h1⟩ := h
  have r1 := own_readsA h1.own
  have k1 := h1.q.o.cells.2.2.2.2.2.2
  obtain ⟨a1, c1, rfl⟩ := formA r1
  exact ⟨a1, c1, k1, r1⟩
theorem seven (w : World) (x0 x1 x2 x3 x4 x5 x6 : Value) (t : TypeId) : (w.alloc (.cells #[x0, x1, x2, x3, x4, x5, x6] t)).cell? ⟨w.heap.size, 0, none⟩ = some x0 ∧ (w.alloc (.cells #[x0, x1, x2, x3, x4, x5, x6] t)).cell? ⟨w.heap.size, 1, none⟩ = some x1 ∧ (w.alloc (.cells #[x0, x1, x2, x3, x4, x5, x6] t)).cell? ⟨w.heap.size, 2, none⟩ = some x2 ∧ (w.alloc (.cells #[x0, x1, x2, x3, x4, x5, x6] t)).cell? ⟨w.heap.size, 3, none⟩ = some x3 ∧ (w.alloc (.cells #[x0, x1, x2, x3, x4, x5, x6] t)).cell? ⟨w.heap.size, 4, none⟩ = some x4 ∧ (w.alloc (.cells #[x0, x1, x2, x3, x4, x5, x6] t)).cell? ⟨w.heap.size, 5, none⟩ = some x5 ∧ (w.alloc (.cells #[x0, x1, x2, x3, x4, x5, x6] t)).cell? ⟨w.heap.size, 6, none⟩ = some x6 := by
  refine ⟨?_, ?_, ?_, ?_, ?_, ?_, ?_⟩ <;> (rw [World.cell?_alloc_at _ _ _ _ rfl]; rfl)
theorem nds_size (L I c : Nat) : (nds L I c).length = c := nds_len _ _ _
theorem srv_al (wd : Int) (ask : Nat → Nat × Nat → ByteArray × Int) (sz n h l i c : Int) : (srvA wd ask sz n h l i c []).2.2.length ≤ 256 := by
  unfold srvA
  by_cases gg : TG h l i c
  · rw [if_neg (fun x => x gg)]
    split
    · exact Nat.zero_le _
    split
    · exact Nat.zero_le _
    have h9 : (row8 wd ask [] h l i c).2.2.length ≤ 256 := by
      obtain ⟨h', l', i', c', rfl, rfl, rfl, rfl, k1, k2, k3, k4, k5, k6⟩ := goes_nat gg
      have hts := tell_size (okw wd) ask (nds ((l' : Int) * (h' : Int)).toNat ((i' : Int) * 2 ^ (h' : Int).toNat).toNat (c' : Int).toNat) []
      have hc : c' ≤ 256 := Nat.le_trans k5 (Nat.le_trans (p2le k2) (by decide))
      have h1 := hts.1
      rw [nds_size] at h1
      show (tell (okw wd) ask [] _).2.2.length ≤ 256
      simp at h1 ⊢
      omega
    split <;> exact h9
  · rw [if_pos gg]; exact Nat.zero_le _
set_option maxRecDepth 100000 in
set_option maxHeartbeats 6400000 in
theorem tiles_serve (wd sz : Int) (lv : Value) (ls : List ByteArray) (made : Bool) (fails code : Int) (aa : Option Addr) (an ac : Nat) (h l i c n : Int) (zh : i64 h) (zl : i64 l) (zi : i64 i) (zc : i64 c) (hn9 : i64 n) (hwd : i64 wd) (hcd : i64 code) (w : World) (hT : T7 w) (hR : ReadsT w lv ls) (hno : ∀ k c, lv = .slice none k c → c = 0) (hz : Sized ls) :
    Calls Tryd.prog 3 #[.agg #[.int .i64 wd, .int .i64 sz, lv, .bool made, .int .i64 fails, .int .i64 code, .slice aa an ac], .agg #[.int .i64 h, .int .i64 l, .int .i64 i, .int .i64 c], .int .i64 n] w fun e w' => e = .returned (.bool true) ∧ Below w.heap.size w w' := by
  have HT : Hid (T7 w) := hT
  have HRD : Hid (ReadsT w lv ls) := hR
  have HI : Hid (i64 wd ∧ i64 (tw wd sz ls made fails code).code) := ⟨hwd, hcd⟩
  have HZ4 : Hid (i64 h ∧ i64 l ∧ i64 i ∧ i64 c ∧ i64 n) := ⟨zh, zl, zi, zc, hn9⟩
  obtain ⟨s, HS⟩ : ∃ s, Hid (tw wd sz ls made fails code = s) := ⟨_, rfl⟩
  have HSW : Hid (s.wd = wd) := by show _ = _; rw [← HS.out]; rfl
  obtain ⟨la, lc, hlv⟩ : ∃ la lc, lv = .slice la ls.length lc := by obtain ⟨a, c, h, _⟩ := hR; exact ⟨a, c, h⟩
  subst hlv
  have TW : Hid (∀ w', Below w.heap.size w w' → Calls _ _ _ _ _) := fun w' hb => twinS wd sz (.slice la ls.length lc) ls made fails code aa an ac w' (HT.out.down hb) (HRD.out.later hb) hno hz
  rw [HS.out] at TW HI
  obtain ⟨ln, HLN⟩ : ∃ x, Hid (ls.length = x) := ⟨_, rfl⟩
  rw [HLN.out] at TW ⊢
  have X70 := seven w (.int .i64 wd) (.int .i64 sz) (.slice la ln lc) (.bool made) (.int .i64 fails) (.int .i64 code) (.slice aa an ac) 25
  obtain ⟨Wa, HWa⟩ : ∃ W0, Hid (w.alloc (.cells #[.int .i64 wd, .int .i64 sz, .slice la ln lc, .bool made, .int .i64 fails, .int .i64 code, .slice aa an ac] 25) = W0) := ⟨_, rfl⟩
  rw [HWa.out] at X70
  have zA : Wa.heap.size = w.heap.size + 1 := by rw [← HWa.out]; simp
  have Ba : Below w.heap.size w Wa := by rw [← HWa.out]; exact (Below.refl _ _).alloc (Nat.le_refl _) _
  obtain ⟨W0, HW0⟩ : ∃ W0, Hid (Wa.alloc (.cells #[.int .i64 h, .int .i64 l, .int .i64 i, .int .i64 c] 27) = W0) := ⟨_, rfl⟩
  have Bb : Below Wa.heap.size Wa W0 := by rw [← HW0.out]; exact (Below.refl _ _).alloc (Nat.le_refl _) _
  have B0 : Hid (Below w.heap.size w W0) := over Ba Bb
  have ZB : Hid (W0.heap.size = w.heap.size + 2) := by show _ = _; rw [← HW0.out]; simp [zA]
  have KK : ∀ {o : Nat} {v : Value}, Wa.cell? ⟨w.heap.size, o, none⟩ = some v → W0.cell? ⟨w.heap.size, o, none⟩ = some v := fun hv => (Bb.cell (World.block_lt_of_cell? _ _ hv)).trans hv
  have X7 : Hid (_ ∧ _ ∧ _ ∧ _ ∧ _ ∧ _ ∧ _) := ⟨KK X70.1, KK X70.2.1, KK X70.2.2.1, KK X70.2.2.2.1, KK X70.2.2.2.2.1, KK X70.2.2.2.2.2.1, KK X70.2.2.2.2.2.2⟩
  have T0 : Hid (Bt W0 (w.heap.size + 1) h l i c) := by show Bt _ _ _ _ _ _; rw [← HW0.out, ← zA]; exact box4 Wa _ _ _ _ _ _ (Below.refl _ _)
  clear X70 KK Ba Bb zA
  rw [← HWa.out] at HW0
  have NM : Hid (∀ x w, Calls _ _ _ _ _) := fun x w => num23 x w
  obtain ⟨A, HA⟩ : ∃ A, Hid (srvA s.wd (askS s) s.sz n h l i c [] = A) := ⟨_, rfl⟩
  have HAL : Hid (A.2.2.length ≤ 256) := by show _ ≤ _; rw [← HA.out]; exact srv_al _ _ _ _ _ _ _ _
  clear hT hR hno hz hwd hcd zh zl zi zc hn9
  go_enter Tryd.func3, Tryd.ntmps3
  go_wp2_with fail
  rw [HW0.out]
  refine (TW.out W0 B0.out).mono ?_
  rintro e w1 ⟨⟨sb, lv1, rfl, hsb, hlv1, h1⟩, hb1⟩
  have H1 : Hid (Sj s sb lv1 w1.heap.size (.slice none 0 0) (fun b => b = sb) [] w1 ∧ W0.heap.size ≤ sb) := ⟨h1, hsb⟩
  have B1 : Hid (Below W0.heap.size W0 w1) := hb1
  have T1 : Hid (Bt w1 (w.heap.size + 1) h l i c) := T0.out.later hb1
  obtain ⟨y0, y1, y2, y3, y4, y5, y6⟩ := X7.out
  have z0 := (hb1.cell (World.block_lt_of_cell? _ _ y0)).trans y0
  have z1 := (hb1.cell (World.block_lt_of_cell? _ _ y1)).trans y1
  have z2 := (hb1.cell (World.block_lt_of_cell? _ _ y2)).trans y2
  have z3 := (hb1.cell (World.block_lt_of_cell? _ _ y3)).trans y3
  have z4 := (hb1.cell (World.block_lt_of_cell? _ _ y4)).trans y4
  have z5 := (hb1.cell (World.block_lt_of_cell? _ _ y5)).trans y5
  have z6 := (hb1.cell (World.block_lt_of_cell? _ _ y6)).trans y6
  clear h1 hb1 hsb hlv1 y0 y1 y2 y3 y4 y5 y6
  go_wp2_with fail
  refine (TW.out w1 (over B0.out B1.out)).mono ?_
  rintro e w2 ⟨⟨sb', lv2, rfl, hsb, hlv2, h2⟩, hb2⟩
  have T2 : Hid (Two s sb lv1 w1.heap.size sb' lv2 w2.heap.size (fun b => b = sb) (fun b => b = sb') [] [] w2) := two_of (w := w) HI.out.2 hsb hlv2 H1.out.1 h2 hb2
  have O2 : Hid (Over w (fun b => b = sb) (fun b => b = sb') w2) := ⟨over B0.out (over B1.out hb2), fun b e => by have := H1.out.2; have := B0.out.size; omega, fun b e => by have := B1.out.size; have := B0.out.size; omega⟩
  have TT2 : Hid (Bt w2 (w.heap.size + 1) h l i c) := T1.out.later hb2
  have RC : Hid (∀ w', Below w2.heap.size w2 w' → Calls Tryd.prog 6 #[.pointer (some ⟨sb, 0, none⟩)] w' fun e w'' => (∃ tb, e = .returned (.agg #[.int .i64 wd, .int .i64 s.sz, .func (.func 14) #[.pointer (some ⟨tb, 0, none⟩)] #[]]) ∧ TJ s sb lv1 w1.heap.size tb (fun b => b = sb) [] w'') ∧ Below w'.heap.size w' w'') := by
    intro w' hb
    rw [← HSW.out]
    exact readerS s sb lv1 w1.heap.size (fun b => b = sb) [] w' HI.out.2 ((srcR s sb lv1 w1.heap.size HI.out.2).later T2.out.a hb)
  have PC : Hid (∀ tb w3, TJ s sb lv1 w1.heap.size tb (fun b => b = sb) [] w3 → Calls _ _ _ _ _) := fun tb w3 htj => serveC (telR s sb lv1 w1.heap.size tb HI.out.2) wd s.sz n HI.out.1 (fun b => b = sb) [] h l i c HZ4.out.1 HZ4.out.2.1 HZ4.out.2.2.1 HZ4.out.2.2.2.1 w3 (by decide) htj
  rw [← HSW.out, HA.out, HSW.out] at PC
  obtain ⟨ah, ac', al⟩ := A
  have NE : Hid (¬ (w.heap.size + 1 = sb)) := fun e => by have h2 := H1.out.2; have h3 := ZB.out; omega
  have SZ2 : Hid (∀ w', Below w2.heap.size w2 w' → Bt w' (w.heap.size + 1) h l i c) := fun w' k => TT2.out.later k
  clear hsb hlv2 h2 hb2 z0 z1 z2 z3 z4 z5 z6 TW X7
  have KD : Hid (Below w2.heap.size w2 w2.drew) := below_dN (Below.refl _ _) 1
  go_wp2_with fail
  go_region_held_law (fun W' => W'.cell? ⟨w.heap.size + 1, 0, none⟩ = some (.int .i64 h) ∧ W'.cell? ⟨w.heap.size + 1, 1, none⟩ = some (.int .i64 l) ∧ W'.cell? ⟨w.heap.size + 1, 2, none⟩ = some (.int .i64 i) ∧ W'.cell? ⟨w.heap.size + 1, 3, none⟩ = some (.int .i64 c)) (first | exact TT2.out | exact SZ2.out _ KD.out | exact SZ2.out _ R3.out.2 | exact R4.out.2.2) (first | (go_at_call 6; refine (RC.out _ (by first | exact Below.refl _ _ | exact KD.out)).mono ?_; rintro e w3 ⟨⟨tb, rfl, htj⟩, hb3⟩; have R3 : Hid (TJ s sb lv1 w1.heap.size tb (fun b => b = sb) [] w3 ∧ Below w2.heap.size w2 w3) := ⟨htj, (by first | exact hb3 | exact over KD.out hb3)⟩; clear htj hb3) | (go_at_call 5; refine (PC.out tb _ R3.out.1).mono ?_; rintro e w4 ⟨rfl, F4, hj4, hg4⟩; have R4 : Hid (TJ s sb lv1 w1.heap.size tb F4 al w4 ∧ Goes (fun b => b = sb) w3 F4 w4 ∧ Bt w4 (w.heap.size + 1) h l i c) := ⟨hj4, hg4, (SZ2.out _ R3.out.2).map fun o v hv => hg4.cell hv NE.out⟩; clear hj4 hg4))
  have T3 : Hid (Two s sb lv1 w1.heap.size sb' lv2 w2.heap.size (fun b => b = sb) (fun b => b = sb') [] [] w3) := T2.out.later HI.out.2 R3.out.2
  have O3 : Hid (Over w (fun b => b = sb) (fun b => b = sb') w3) := O2.out.later R3.out.2
  have T4 : Hid (Two s sb lv1 w1.heap.size sb' lv2 w2.heap.size F4 (fun b => b = sb') al [] w4) := T3.out.left HI.out.2 R4.out.2.1 R4.out.1.j
  have O4 : Hid (Over w F4 (fun b => b = sb') w4) := O3.out.left R4.out.2.1
  have TT4 := R4.out.2.2
  clear T2 O2
  have DC : Hid (Calls _ _ _ _ _) := serveD s sb' lv2 w2.heap.size HI.out.2 n HZ4.out.2.2.2.2 (fun b => b = sb') [] h l i c HZ4.out.1 HZ4.out.2.1 HZ4.out.2.2.1 HZ4.out.2.2.2.1 w4 (by decide) T4.out.b
  rw [HA.out] at DC
  clear T3 O3
  obtain ⟨t0, t1, t2, t3⟩ := TT4
  go_wp2_with fail
  refine DC.out.mono ?_
  rintro e w5 ⟨rfl, F5, hj5, hg5⟩
  have T5 : Hid (Two s sb lv1 w1.heap.size sb' lv2 w2.heap.size F4 F5 al al w5) := T4.out.right HI.out.2 hg5 hj5
  have O5 : Hid (Over w F4 F5 w5) := O4.out.right hg5
  obtain ⟨a1, c1, k1, r1⟩ := SJ.asked T5.out.a
  obtain ⟨a2, c2, k2, r2⟩ := SJ.asked T5.out.b
  have AC : Hid (∀ w', Below w5.heap.size w5 w' → Calls _ _ _ _ _) := fun w' hb => addrsC a1 a2 c1 c2 al w' (by have h : al.length ≤ 256 := HAL.out; omega) (r1.later hb) (r2.later hb)
  have K5 : Hid (w5.cell? ⟨sb, 6, none⟩ = some (.slice a1 al.length c1) ∧ w5.cell? ⟨sb', 6, none⟩ = some (.slice a2 al.length c2)) := ⟨k1, k2⟩
  have KB : Hid (∀ w', Below w5.heap.size w5 w' → w'.cell? ⟨sb, 6, none⟩ = some (.slice a1 al.length c1) ∧ w'.cell? ⟨sb', 6, none⟩ = some (.slice a2 al.length c2)) := fun w' hb => ⟨(hb.cell (World.block_lt_of_cell? _ _ k1)).trans k1, (hb.cell (World.block_lt_of_cell? _ _ k2)).trans k2⟩
  have KD5 : Hid (Below w5.heap.size w5 w5.drew) := below_dN (Below.refl _ _) 1
  have qh : (ah.toList == ah.toList) = true := beq_self_eq_true _
  have qc : (ac' == ac') = true := beq_self_eq_true _
  clear hj5 hg5 T4 O4 r1 r2 t0 t1 t2 t3 k1 k2
  go_wp2_with fail
  go_region_held_law (fun W' => W'.cell? ⟨sb, 6, none⟩ = some (.slice a1 al.length c1) ∧ W'.cell? ⟨sb', 6, none⟩ = some (.slice a2 al.length c2)) (first | exact K5.out | exact KB.out _ KD5.out | exact KB.out _ B7.out.2) (first | (go_at_call 8; refine (NM.out _ _).mono ?_; rintro e w6 ⟨rfl, hw6⟩; rw [hw6]; clear hw6) | (go_at_call 9; refine (AC.out _ (by first | exact Below.refl _ _ | exact KD5.out)).mono ?_; rintro e w7 ⟨rfl, m7, hw7⟩; have B7 : Hid (Below w.heap.size w w7 ∧ Below w5.heap.size w5 w7) := (by rw [hw7]; first | exact ⟨below_dN O5.out.1 m7, below_dN (Below.refl _ _) m7⟩ | exact ⟨below_dN (below_dN O5.out.1 1) m7, below_dN KD5.out m7⟩); clear hw7))
  go_wp2
  go_ret
  exact ⟨rfl, B7.out.1⟩
end Go.Proofs.YtajfcddabkhamaaDoor.v8

namespace Go.Proofs.YtajfcddabkhamaaDoor.ws
open Go.RowKit Go.PlainAid
open Go.Proofs.YtajfcddabkhamaaDoor.cp Go.Proofs.YtajfcddabkhamaaDoor.cv Go.Proofs.YtajfcddabkhamaaDoor.ka Go.Proofs.YtajfcddabkhamaaDoor.sa Go.Proofs.YtajfcddabkhamaaDoor.sg
set_option linter.unusedVariables false

theorem le_sum (xs : List ByteArray) : ∀ x ∈ xs, x.size ≤ (xs.map ByteArray.size).sum := by
  induction xs with
  | nil => intro x hx; cases hx
  | cons y ys ih =>
    intro x hx
    rw [List.map_cons, List.sum_cons]
    rcases List.mem_cons.1 hx with rfl | hx
    · omega
    · have := ih x hx; omega
theorem sized_of {xs : List ByteArray} (h : (xs.map ByteArray.size).sum + xs.length ≤ 1048576) : Sized xs := by
  refine ⟨fun x hx => ?_, by omega⟩
  have := le_sum xs x hx
  omega
end Go.Proofs.YtajfcddabkhamaaDoor.ws

namespace Go.Proofs.YtajfcddabkhamaaDoor.v9
open Go.RowKit Go.PlainAid
open Go.Proofs.YtajfcddabkhamaaDoor.cp Go.Proofs.YtajfcddabkhamaaDoor.cv Go.Proofs.YtajfcddabkhamaaDoor.ka Go.Proofs.YtajfcddabkhamaaDoor.sa Go.Proofs.YtajfcddabkhamaaDoor.sg Go.Proofs.YtajfcddabkhamaaDoor.ws
set_option linter.unusedVariables false

theorem law_call (W : World) (a0 a1 : Int) (v : Value) (xs : List ByteArray) (b : Bool) (a4 a5 : Int) (aa : Option Addr) (an ac : Nat) (w0 : (Lit.int .i64 a0).wf = true) (w5 : (Lit.int .i64 a5).wf = true) (hr : ReadsT W v xs) (hno : ∀ k c, v = .slice none k c → c = 0) (h l i c : Int) (wh : (Lit.int .i64 h).wf = true) (wl : (Lit.int .i64 l).wf = true) (wi : (Lit.int .i64 i).wf = true) (wc : (Lit.int .i64 c).wf = true) (n : Int) (wn : (Lit.int .i64 n).wf = true) (hsum : ((xs.map ByteArray.size).sum + xs.length) ≤ 1048576) (tabs : T7 W) :
    Calls Tryd.prog 3 #[.agg #[.int .i64 a0, .int .i64 a1, v, .bool b, .int .i64 a4, .int .i64 a5, .slice aa an ac], .agg #[.int .i64 h, .int .i64 l, .int .i64 i, .int .i64 c], .int .i64 n] W fun e w' => e = .returned (.bool true) ∧ Below W.heap.size W w' :=
  v8.tiles_serve a0 a1 v xs b a4 a5 aa an ac h l i c n (i64_of wh) (i64_of wl) (i64_of wi) (i64_of wc) (i64_of wn) (i64_of w0) (i64_of w5) W tabs hr hno (sized_of hsum)
end Go.Proofs.YtajfcddabkhamaaDoor.v9

namespace Go.Proofs.YtajfcddabkhamaaDoor.fz
open Go.ChangeShapes Go.WideShapes Go.ChangeAt Go.WideMaps Go.WideElems Go.RowKit
open Go.Proofs.YtajfcddabkhamaaDoor.pl Go.Proofs.YtajfcddabkhamaaDoor.ft Go.Proofs.YtajfcddabkhamaaDoor.re Go.Proofs.YtajfcddabkhamaaDoor.rf Go.Proofs.YtajfcddabkhamaaDoor.pj Go.Proofs.YtajfcddabkhamaaDoor.xc Go.Proofs.YtajfcddabkhamaaDoor.tb Go.Proofs.YtajfcddabkhamaaDoor.sa
set_option linter.unusedVariables false

-- five laid variables: the document's tables, the table for Len64, the powers of ten
theorem gF : Tryd.prog.globalNamed "annals/annalsref2.first" = some 0 := by kernel_rfl
theorem gT : Tryd.prog.globalNamed "annals/annalsref2.table" = some 1 := by kernel_rfl
theorem tF : (Tryd.prog.globals[0]?).map (·.type) = some 93 := by kernel_rfl
theorem tT : (Tryd.prog.globals[1]?).map (·.type) = some 97 := by kernel_rfl
theorem c8 : Tryd.prog.cellsOf 93 = 8 := by kernel_rfl
theorem fData : (Rows.laid_annals_annalsref2_first : DataW Unit) = Lib.tabData .u32 v0.list := by kernel_rfl
theorem tData : (Rows.laid_annals_annalsref2_table : DataW Unit) = Lib.tabData .u32 kL := by kernel_rfl
theorem gD : Tryd.prog.globalNamed "math/bits.deBruijn64tab" = some 5 := by kernel_rfl
theorem tD : (Tryd.prog.globals[5]?).map (·.type) = some 111 := by kernel_rfl
theorem c64b : Tryd.prog.cellsOf 111 = 64 := by kernel_rfl
theorem cb : Tryd.prog.cellsOf 5 = 1 := by kernel_rfl
def dbL : List Int := Lib.deBruijn64tab.map fun z : Nat => (z : Int)
theorem dbData : (Rows.laid_math_bits_deBruijn64tab : DataW Unit) = Lib.tabData .u8 dbL := by kernel_rfl
theorem atD {W : World} {cs : Array Value} (e : cs.toList = dbL.map (Value.int .u8)) (hc : ∀ j, W.cell? ⟨5, j, none⟩ = cs[j]?) : TabB W := fun j hj => by
  have hl : Lib.deBruijn64tab.length = 64 := rfl
  rw [hc j, ← Array.getElem?_toList, e]
  unfold dbL
  simp [List.getD, List.getElem?_eq_getElem (show j < Lib.deBruijn64tab.length by omega)]
theorem gP : Tryd.prog.globalNamed "internal/strconv.uint64pow10" = some 3 := by kernel_rfl
theorem tP : (Tryd.prog.globals[3]?).map (·.type) = some 106 := by kernel_rfl
theorem c20 : Tryd.prog.cellsOf 106 = 20 := by kernel_rfl
theorem cu : Tryd.prog.cellsOf 77 = 1 := by kernel_rfl
theorem pData : (Rows.laid_internal_strconv_uint64pow10 : DataW Unit) = Lib.tabData .u64 Lib.pow10Tab := by kernel_rfl
def laid5z : List (String × DataW Unit) := [("annals/annalsref2.first", Rows.laid_annals_annalsref2_first), ("annals/annalsref2.table", Rows.laid_annals_annalsref2_table), ("math/bits.deBruijn32tab", Rows.laid_math_bits_deBruijn32tab), ("math/bits.deBruijn64tab", Rows.laid_math_bits_deBruijn64tab), ("internal/strconv.uint64pow10", Rows.laid_internal_strconv_uint64pow10)]
theorem of_laid5z {W : World} (h : laidMetH Tryd.prog laid5z W) : T7 W := by
  rw [MakeChecks.laidMetH_plain _ _ _ (by kernel_rfl)] at h
  have h2 := h.tail
  have h4 := h2.tail.tail
  have h5 := h4.tail
  have x1 : FT W v0 := by
    obtain ⟨ps, ⟨g1, t1, cs1, f1, p1, q1, hg1, ht1, hv1, hd1, _, _⟩, _, _⟩ := h
    obtain rfl := Option.some.inj (gF.symm.trans hg1)
    obtain rfl := Option.some.inj (tF.symm.trans ht1)
    rw [fData] at hd1
    exact at8 (Lib.cells_of_tab Tryd.underlying93 Tryd.underlying92 c1 c8 hd1) (World.var?_cell hg1 hv1)
  have x2 : TT W kF := by
    obtain ⟨ps, ⟨g1, t1, cs1, f1, p1, q1, hg1, ht1, hv1, hd1, _, _⟩, _, _⟩ := h2
    obtain rfl := Option.some.inj (gT.symm.trans hg1)
    obtain rfl := Option.some.inj (tT.symm.trans ht1)
    rw [tData] at hd1
    exact at64 (Lib.cells_of_tab Tryd.underlying97 Tryd.underlying92 c1 c64 hd1) (World.var?_cell hg1 hv1)
  have x4 : TabB W := by
    obtain ⟨ps, ⟨g1, t1, cs1, f1, p1, q1, hg1, ht1, hv1, hd1, _, _⟩, _, _⟩ := h4
    obtain rfl := Option.some.inj (gD.symm.trans hg1)
    obtain rfl := Option.some.inj (tD.symm.trans ht1)
    rw [dbData] at hd1
    exact atD (Lib.cells_of_tab Tryd.underlying111 Tryd.underlying5 cb c64b hd1) (World.var?_cell hg1 hv1)
  have hb : 6 ≤ W.heap.size := by
    have := World.block_lt_of_cell? _ _ (x4 0 (by decide))
    exact this
  refine ⟨⟨⟨⟨hb⟩, x1, x2⟩, x4⟩, ?_⟩
  obtain ⟨ps, ⟨g1, t1, cs1, f1, p1, q1, hg1, ht1, hv1, hd1, _, _⟩, _, _⟩ := h5
  obtain rfl := Option.some.inj (gP.symm.trans hg1)
  obtain rfl := Option.some.inj (tP.symm.trans ht1)
  rw [pData] at hd1
  have e1 := Lib.cells_of_tab Tryd.underlying106 Tryd.underlying77 cu c20 hd1
  show W.var? Tryd.prog _ = _
  rw [hv1, ← e1]
end Go.Proofs.YtajfcddabkhamaaDoor.fz
