import Derived.Test.YtmigdhohbjnhcaaDoorPh
namespace Go.Proofs.YtmigdhohbjnhcaaDoor.pi
open Go.RowKit Go.PlainAid
open Go.Proofs.YtmigdhohbjnhcaaDoor.pl Go.Proofs.YtmigdhohbjnhcaaDoor.pa Go.Proofs.YtmigdhohbjnhcaaDoor.pb Go.Proofs.YtmigdhohbjnhcaaDoor.pc Go.Proofs.YtmigdhohbjnhcaaDoor.pd Go.Proofs.YtmigdhohbjnhcaaDoor.pe Go.Proofs.YtmigdhohbjnhcaaDoor.pf Go.Proofs.YtmigdhohbjnhcaaDoor.pg Go.Proofs.YtmigdhohbjnhcaaDoor.ph
set_option linter.unusedVariables false

theorem inv_congr {g g' : Nat → Int} {N : Nat} {L : List Int} (x : Inv g N L) (h : ∀ j, j < N → g j = g' j) : Inv g' N L :=
  ⟨x.len, x.rng, fun j hj => (x.eq j hj).trans (h _ (by omega))⟩

set_option maxHeartbeats 800000 in
theorem write (kk : Nat → Int) (v0 : St) (h n : Nat) (t p : ByteArray) (w : World) (HO : Hid v0.ok) (hp : p.size ≤ 1125899906842624) (hn : n ≤ 1125899906842624) (HN : Hid (n = t.size)) (HH : Hid (HashAt kk v0 w h t)) (HK : Hid (KT w kk)) :
    Calls Tryd.prog 17 #[.pointer (some ⟨h, 0, none⟩), .string p] w fun e w' => e = .returned (.int .i64 p.size) ∧ Keeps h w w' ∧ HashAt kk v0 w' h (t ++ p) := by
  obtain ⟨h4, L, hi, hh⟩ := HH.out
  rw [← HN.out] at hi hh
  have e1 : hs kk (bt t) v0 (n / 64) = hs kk (bt (t ++ p)) v0 (n / 64) := hs_congr kk _ _ v0 _ (fun j hj => (bt_append_left t p j (by have := HN.out; omega)).symm)
  rw [e1] at hh
  have HI : Hid (Inv (bt (t ++ p)) n L) := inv_congr hi (fun j hj => (bt_append_left t p j (by have := HN.out; omega)).symm)
  have HQ : Hid (∀ j, j < p.size → bt p j = bt (t ++ p) (n + j)) := fun j hj => by rw [HN.out]; exact (bt_append_right t p j).symm
  have HC : Hid _ := hh
  have c : w.cell? ⟨h, 72, none⟩ = some (.int .i64 n) := by rw [cell_of_row _ _ _ _ _ _ hh]; exact hcells_sz _ _ _ hi.len
  clear hi hh e1 HH
  obtain ⟨d, HD⟩ : ∃ d, Hid (d = n % 64) := ⟨_, rfl⟩
  have hd : (n : Int) % 64 = (d : Int) := by have := HD.out; omega
  have hd2 : (n : Int).tmod 64 = (d : Int) := by rw [Int.tmod_eq_emod_of_nonneg (by omega)]; exact hd
  have hmf : ∀ (fn : Fn) (first cap : Array Value) (w : World), (Instr.makeFunc fn first cap).run Tryd.prog w = .ok (.func fn first cap) w := fun _ _ _ _ => rfl
  go_enter Tryd.func17, Tryd.ntmps17
  go_wp2_with fail
  go_region_held3 (fun w' => w'.cell? ⟨h, 72, none⟩ = some (.int .i64 n)) (first | go_keep | (rw [cell_of_row _ _ _ _ _ _ (Hid.out HH2)]; exact hcells_sz _ _ _ (Hid.out HI2).len)) ((go_at_call 28; refine (fill h kk (bt (t ++ p)) v0 n d L n p _ h4 HO HD (by omega) HI HQ (by exact HC) (by exact HK)).mono ?_; rintro e w' ⟨rfl, hk2, L2, hi2, hh2⟩; have HK2 : Hid (Keeps _ _ _) := hk2; have HI2 : Hid (Inv _ _ _) := hi2; have HH2 : Hid _ := hh2; clear hk2 hi2 hh2))
  have F : w'.frozen? ⟨h, 72, none⟩ = false := frozen_of_row _ _ _ _ _ HH2.out
  have c2 : w'.cell? ⟨h, 72, none⟩ = some (.int .i64 n) := by rw [cell_of_row _ _ _ _ _ _ HH2.out]; exact hcells_sz _ _ _ HI2.out.len
  clear c hd hd2
  go_wp2
  go_ret
  have hsz : (t ++ p).size = n + p.size := by rw [ByteArray.size_append, HN.out]
  refine ⟨rfl, (Keeps.trans (⟨rfl, rfl, rfl, Nat.le_refl _, fun _ _ _ => rfl⟩ : Keeps h w w.drew) HK2.out).setCell _ _, ⟨h4, L2, ?_, ?_⟩⟩
  · rw [hsz]; exact HI2.out
  · rw [hsz, heap_setCell_same _ _ _ _ _ _ HH2.out, hcells_setsz _ _ _ _ HI2.out.len]
    rfl

theorem kt_below {w w' : World} {kk : Nat → Int} {B : Nat} (x : KT w kk) (b : Below B w w') (hB : 3 < B) : KT w' kk := fun j hj => (b.cell hB).trans (x j hj)
theorem st_below {w w' : World} {v : St} {B : Nat} (x : ST w v) (b : Below B w w') (hB : 1 < B) : ST w' v := fun j hj => (b.cell hB).trans (x j hj)
theorem st_keep {w w' : World} {v : St} {h : Nat} (x : ST w v) (k : Keeps h w w') (hh : 4 ≤ h) : ST w' v := fun j hj => (k.cell x.lt (show 1 ≠ h by omega)).trans (x j hj)

theorem hsum (kk : Nat → Int) (v0 : St) (h n : Nat) (t : ByteArray) (w : World) (HO : Hid v0.ok) (hn : n ≤ 1125899906842624) (HN : Hid (n = t.size)) (HH : Hid (HashAt kk v0 w h t)) (HK : Hid (KT w kk)) :
    Calls Tryd.prog 18 #[.pointer (some ⟨h, 0, none⟩)] w fun e w' => e = .returned (.string (shaF kk v0 t)) ∧ Below w.heap.size w w' := by
  have hlt := HH.out.lt
  have h4 := HH.out.big
  go_enter Tryd.func18, Tryd.ntmps18
  go_wp2_with fail
  refine (copy kk v0 h t _ HH).mono ?_
  rintro e w1 ⟨rfl, hb1, hk1⟩
  have hs1 : w.heap.size < w1.heap.size := hk1.lt
  have c : w1.cell? ⟨w.heap.size, 72, none⟩ = some (.int .i64 n) := by
    obtain ⟨_, L, hi, hh⟩ := hk1
    rw [cell_of_row _ _ _ _ _ _ hh, HN.out]; exact hcells_sz _ _ _ hi.len
  have HB1 : Hid (Below w.heap.size w w1) := hb1
  have HK1 : Hid (HashAt kk v0 w1 w.heap.size t) := hk1
  clear hb1 hk1
  go_wp2_with fail
  refine (padding n _ (by omega)).mono ?_
  rintro e w2 ⟨rfl, rfl⟩
  have HB2 : Hid (Below w1.heap.size w1 (w1.alloc (.cells (row (padL n)) 5))) := (Below.refl _ _).alloc (Nat.le_refl _) _
  generalize w1.alloc (.cells (row (padL n)) 5) = w2 at *
  clear c
  go_wp2_with fail
  refine (write kk v0 w.heap.size n t (str (padL n)) _ HO (by rw [str_size, padL_length]; unfold zerosF; omega) hn HN (HK1.out.below HB2.out hs1) (kt_below (kt_below HK.out HB1.out HK.out.lt) HB2.out (by omega))).mono ?_
  rintro e w3 ⟨rfl, hk3, hh3⟩
  have HB3 : Hid (Below w.heap.size w w3) := (HB1.out.trans (HB2.out.mono (by omega))).trans (hk3.below (Nat.le_refl _) (by have := HB2.out.size; omega))
  obtain ⟨h4', L, hi, hh⟩ := hh3
  have HH3 : Hid (w3.heap[w.heap.size]? = some (.cells (hc (hs kk (bt (t ++ str (padL n))) v0 ((t ++ str (padL n)).size / 64)).list (L.map (Value.int .u8) ++ [.int .i64 (t ++ str (padL n)).size])) 58 (0, 0))) := hh
  clear hk3 hi hh
  go_wp2_with fail
  refine (text w.heap.size _ _ _ _ (hs_ok kk _ v0 HO.out _) HH3).mono ?_
  rintro e w4 ⟨rfl, hb4⟩
  have HB4 : Hid (Below w.heap.size w w4) := HB3.out.trans (hb4.mono HB3.out.size)
  have HE : Hid (textF (hs kk (bt (t ++ str (padL n))) v0 ((t ++ str (padL n)).size / 64)) = shaF kk v0 t) := by
    show _ = _
    have e1 : t ++ str (padL n) = padB t := by rw [HN.out]; rfl
    rw [e1, padB_size, Nat.mul_div_cancel_left _ (by omega)]
    rfl
  rw [HE.out]
  clear hb4
  go_wp2
  go_ret
  exact ⟨rfl, HB4.out⟩

theorem empty_append (s : ByteArray) : ByteArray.empty ++ s = s := by
  apply ext_bt
  · rw [ByteArray.size_append]; simp
  · intro k hk
    simp

theorem sum (kk : Nat → Int) (v0 : St) (n : Nat) (s : ByteArray) (w : World) (HO : Hid v0.ok) (hn : n ≤ 1125899906842624) (HN : Hid (n = s.size)) (HS : Hid (ST w v0)) (HK : Hid (KT w kk)) (h4 : 4 ≤ w.heap.size) :
    Calls Tryd.prog 8 #[.string s] w fun e w' => e = .returned (.string (shaF kk v0 s)) ∧ Below w.heap.size w w' := by
  go_enter Tryd.func8, Tryd.ntmps8
  go_wp2_with fail
  refine (new kk v0 _ HS h4).mono ?_
  rintro e w1 ⟨rfl, hb1, hk1⟩
  have hs1 : w.heap.size < w1.heap.size := hk1.lt
  have HB1 : Hid (Below w.heap.size w w1) := hb1
  have HK1 : Hid (HashAt kk v0 w1 w.heap.size ByteArray.empty) := hk1
  clear hb1 hk1
  go_wp2_with fail
  refine (write kk v0 w.heap.size 0 ByteArray.empty s _ HO (by have := HN.out; omega) (by omega) rfl HK1 (kt_below HK.out HB1.out HK.out.lt)).mono ?_
  rintro e w2 ⟨rfl, hk2, hh2⟩
  rw [empty_append] at hh2
  have HB2 : Hid (Below w.heap.size w w2) := HB1.out.trans (hk2.below (Nat.le_refl _) (by omega))
  have HH2 : Hid (HashAt kk v0 w2 w.heap.size s) := hh2
  clear hk2 hh2
  go_wp2_with fail
  refine (hsum kk v0 w.heap.size n s _ HO hn HN HH2 (kt_below HK.out HB2.out HK.out.lt)).mono ?_
  rintro e w3 ⟨rfl, hb3⟩
  have HB3 : Hid (Below w.heap.size w w3) := HB2.out.trans (hb3.mono HB2.out.size)
  clear hb3
  go_wp2
  go_ret
  exact ⟨rfl, HB3.out⟩

def wid (w : Int) : Nat := if w < 1 ∨ 32 < w then 32 else w.toNat
theorem wid_le (w : Int) : wid w ≤ 32 := by unfold wid; split <;> omega
theorem wid_pos (w : Int) : 1 ≤ wid w := by unfold wid; split <;> omega



end Go.Proofs.YtmigdhohbjnhcaaDoor.pi
