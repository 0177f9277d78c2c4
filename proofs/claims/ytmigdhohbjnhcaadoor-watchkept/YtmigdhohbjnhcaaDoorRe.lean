import Derived.Test.YtmigdhohbjnhcaaDoorRd
namespace Go.Proofs.YtmigdhohbjnhcaaDoor.re
open Go.RowKit Go.PlainAid
open Go.Proofs.YtmigdhohbjnhcaaDoor.pl Go.Proofs.YtmigdhohbjnhcaaDoor.pd Go.Proofs.YtmigdhohbjnhcaaDoor.pf Go.Proofs.YtmigdhohbjnhcaaDoor.pg Go.Proofs.YtmigdhohbjnhcaaDoor.ra Go.Proofs.YtmigdhohbjnhcaaDoor.rb Go.Proofs.YtmigdhohbjnhcaaDoor.rc Go.Proofs.YtmigdhohbjnhcaaDoor.rd
set_option linter.unusedVariables false

def TT (w : World) (kk : Nat → Int) : Prop := ∀ j, j < 64 → w.cell? ⟨2, j, none⟩ = some (.int .u32 (kk j))
def FT (w : World) (v : St) : Prop := ∀ j, j < 8 → w.cell? ⟨0, j, none⟩ = some (.int .u32 (v.list.getD j 0))
theorem tt_lt {w : World} {kk : Nat → Int} (h : TT w kk) : 2 < w.heap.size := World.block_lt_of_cell? w ⟨2, 0, none⟩ (h 0 (by omega))
theorem tt_below {w w' : World} {kk : Nat → Int} {B : Nat} (x : TT w kk) (b : Below B w w') (hB : 2 < B) : TT w' kk := fun j hj => (b.cell hB).trans (x j hj)
theorem ft_below {w w' : World} {v : St} {B : Nat} (x : FT w v) (b : Below B w w') (hB : 0 < B) : FT w' v := fun j hj => (b.cell hB).trans (x j hj)
theorem bytes_below {w w' : World} {B off len : Nat} {g : Nat → Int} {b : Nat} (x : Bytes w B off len g) (h : Below b w w') (hB : B < b) : Bytes w' B off len g :=
  ⟨Nat.lt_of_lt_of_le x.1 h.size, fun j hj => ⟨(h.cell hB).trans (x.2 j hj).1, (x.2 j hj).2⟩⟩
theorem bytes_setRow {w : World} {B off len : Nat} {g : Nat → Int} (x : Bytes w B off len g) (b : Nat) (cs : Array Value) (hne : B ≠ b) : Bytes (w.setRow b cs) B off len g :=
  ⟨by have := x.1; simpa [World.setRow] using this, fun j hj => ⟨(World.cell?_of_block (w := w) (setRow_other w b B cs hne)).trans (x.2 j hj).1, (x.2 j hj).2⟩⟩
theorem cell_grow {w w' : World} {row : Option Nat} (h : w.grownBy w' row) (b i : Nat) (hb : b < w.heap.size) (hne : some b ≠ row) : w'.cell? ⟨b, i, none⟩ = w.cell? ⟨b, i, none⟩ := World.cell?_of_block (w := w) (h.block b hb hne)

structure LayR (kk : Nat → Int) (w : World) (vB g L : Nat) (G : Nat → Int) (V : St) (wr : World) : Prop where
  lv : wr.heap[vB]? = some (.cells V.cells 51 (0, 0))
  lb : Bytes wr g 0 L G
  lt : TT wr kk
  bl : Below w.heap.size w wr

set_option maxHeartbeats 1600000 in
theorem rsum (kk : Nat → Int) (v0 : St) (s : ByteArray) (w : World) (hv : v0.ok) (hsz : s.size ≤ 140737488352256) (HF : Hid (FT w v0)) (HT : Hid (TT w kk)) :
    Calls Tryd.prog 11 #[.string s] w fun e w' => e = .returned (.string (shaF kk v0 s)) ∧ Below w.heap.size w w' := by
  have h3 : 2 < w.heap.size := tt_lt HT.out
  obtain ⟨L, HL⟩ : ∃ L, Hid (L = 64 * padN s.size) := ⟨_, rfl⟩
  have hL : L ≤ 140737488352256 + 200 := by have h1 := HL.out; rw [padN_mul] at h1; unfold zerosF at h1; omega
  have HP : Hid (Calls _ _ _ _ _) := padded s w hsz
  rw [← HL.out] at HP
  obtain ⟨i5, hi, hz0, hz1, hz2⟩ := info_parts info5
  have HIN : Hid (_ ∧ _ ∧ _ ∧ _) := ⟨hi, hz0, hz1, hz2⟩
  clear hi hz0 hz1 hz2
  have H40 : Hid ((Tryd.prog.info? 51).map (·.size) = some 8) := by show _ = _; kernel_rfl
  go_enter Tryd.func11, Tryd.ntmps11
  go_wp2_with fail
  refine HP.out.mono ?_
  rintro e w1 ⟨g, cap, rfl, hb1, hby⟩
  have HB1 : Hid (Below w.heap.size w w1) := hb1
  have HBY : Hid (Bytes w1 g 0 L (bt (padB s))) := hby
  have hg1 : g < w1.heap.size := hby.1
  have hs1 : w.heap.size ≤ w1.heap.size := hb1.size
  clear hb1 hby HP
  obtain ⟨a, b, c, d, e, f, g', h'⟩ := v0
  have hft := ft_below HF.out HB1.out (by omega)
  have X0 : w1.cell? ⟨0, 0, none⟩ = some (.int .u32 a) := hft 0 (by omega)
  have X1 : w1.cell? ⟨0, 1, none⟩ = some (.int .u32 b) := hft 1 (by omega)
  have X2 : w1.cell? ⟨0, 2, none⟩ = some (.int .u32 c) := hft 2 (by omega)
  have X3 : w1.cell? ⟨0, 3, none⟩ = some (.int .u32 d) := hft 3 (by omega)
  have X4 : w1.cell? ⟨0, 4, none⟩ = some (.int .u32 e) := hft 4 (by omega)
  have X5 : w1.cell? ⟨0, 5, none⟩ = some (.int .u32 f) := hft 5 (by omega)
  have X6 : w1.cell? ⟨0, 6, none⟩ = some (.int .u32 g') := hft 6 (by omega)
  have X7 : w1.cell? ⟨0, 7, none⟩ = some (.int .u32 h') := hft 7 (by omega)
  clear hft
  go_wp2_with fail
  clear X0 X1 X2 X3 X4 X5 X6 X7
  obtain ⟨v0, hv0⟩ : ∃ v0 : St, v0 = ⟨a, b, c, d, e, f, g', h'⟩ := ⟨_, rfl⟩
  have lay0 : LayR kk w w1.heap.size g L (bt (padB s)) v0 (w1.alloc (.cells #[.int .u32 a, .int .u32 b, .int .u32 c, .int .u32 d, .int .u32 e, .int .u32 f, .int .u32 g', .int .u32 h'] 51)) := by
    subst hv0
    exact ⟨heap_alloc_new w1 _, bytes_below HBY.out ((Below.refl w1.heap.size w1).alloc (Nat.le_refl _) _) hg1, tt_below (tt_below HT.out HB1.out h3) ((Below.refl w1.heap.size w1).alloc (Nat.le_refl _) _) (by omega), HB1.out.alloc hs1 _⟩
  have LAY0 : Hid (LayR _ _ _ _ _ _ _ _) := lay0
  have HV0 : Hid v0.ok := by show v0.ok; rw [hv0]; exact hv
  have HVE : Hid _ := hv0
  generalize w1.alloc (.cells #[.int .u32 a, .int .u32 b, .int .u32 c, .int .u32 d, .int .u32 e, .int .u32 f, .int .u32 g', .int .u32 h'] 51) = w2 at *
  clear lay0 hv0 hv HBY
  go_loopw [5] (fun i wr => ∃ k P : Nat, Hid (P = 64 * k) ∧ P ≤ L ∧ i = .int .i64 P ∧ Hid (LayR kk w w1.heap.size g L (bt (padB s)) (hs kk (bt (padB s)) v0 k) wr)) (fun i _ => (L - intOf i).toNat)
  case atStart => exact ⟨0, 0, rfl, by omega, rfl, LAY0⟩
  case round =>
    clear LAY0
    obtain ⟨k, P, HPk, hPL, rfl, LAY⟩ := hrel
    have hLm : L % 64 = 0 := by have := HL.out; omega
    have hPm : P % 64 = 0 := by have := HPk.out; omega
    have HLM : Hid _ := hLm
    have HPM : Hid _ := hPm
    clear hLm hPm
    have okk := hs_ok kk (bt (padB s)) v0 HV0.out k
    have HOK : Hid (St.ok _) := okk
    clear okk
    have HE1 : Hid (hs kk (bt (padB s)) v0 (k + 1) = blockF kk (bt (padB s)) P (hs kk (bt (padB s)) v0 k)) := by show _ = _; rw [HPk.out]; rfl
    have HFIN : Hid (k = padN s.size → textF (hs kk (bt (padB s)) v0 k) = shaF kk v0 s) := fun e => by rw [e]; rfl
    by_cases hlt : P < L
    · have hlt' : (P : Int) < L := by omega
      have h63 : P + 63 < L := by have := HLM.out; have := HPM.out; omega
      revert HE1 HOK LAY
      generalize hs kk (bt (padB s)) v0 k = V
      intro LAY HOK HE1
      have hsz8 : V.cells.size = 8 := rfl
      have HZ8 : Hid ((Tryd.prog.info? 51).map (·.size) = some V.cells.size) := by show _ = _; rw [hsz8]; exact H40.out
      clear hsz8
      go_wp2_with (refine wpList_load_row rfl 51 (.tmp 4) rfl w1.heap.size rfl 51 V.cells (0, 0) _ LAY.out.lv Tryd.underlying51 rfl HZ8.out ?_)
      refine (block V g 0 L cap P (bt (padB s)) kk _ h63 (by omega) HOK.out LAY.out.lb LAY.out.lt).mono ?_
      rintro e w3 ⟨rfl, hb3⟩
      have hvlt : w1.heap.size < wr.heap.size := (Array.getElem?_eq_some_iff.1 LAY.out.lv).1
      have HV3 : Hid (w3.heap[w1.heap.size]? = some (.cells V.cells 51 (0, 0))) := (hb3.block _ hvlt).trans LAY.out.lv
      have HB3 : Hid (Below wr.heap.size wr w3) := hb3
      clear hb3
      go_wp2_with (refine wpList_store_row rfl 51 (.tmp 4) (.tmp 20) rfl w1.heap.size (blockF kk (bt (padB s)) P V).cells rfl rfl 51 V.cells HV3.out (show _ = some (blockF kk (bt (padB s)) P V).cells.size from H40.out) rfl (by simp [St.cells, Value.oneCell']) ?_)
      go_roundw
      case rel =>
        refine ⟨k + 1, P + 64, (show _ = _ by have := HPk.out; omega), by have := HLM.out; have := HPM.out; omega, by go_num, ?_⟩
        rw [HE1.out]
        exact ⟨setRow_heap _ _ _ _ _ _ HV3.out, bytes_setRow (bytes_below LAY.out.lb HB3.out (by omega)) _ _ (by omega), tt_below (tt_below LAY.out.lt HB3.out (by omega)) (below_setRow (B := w1.heap.size) (Below.refl _ _) (Nat.le_refl _) _) (by omega), below_setRow (LAY.out.bl.trans (HB3.out.mono (by omega))) hs1 _⟩
      case measure => simp [intOf]; omega
    · have hlt' : ¬ (P : Int) < L := by omega
      have ek : k = padN s.size := by have h1 := HPk.out; have h2 := HL.out; omega
      have HT2 : Hid _ := HFIN.out ek
      clear HE1 HFIN
      revert HOK LAY HT2
      generalize hs kk (bt (padB s)) v0 k = V
      intro LAY HOK HT2
      have hvlt : w1.heap.size < wr.heap.size := (Array.getElem?_eq_some_iff.1 LAY.out.lv).1
      go_wp2_with fail
      go_loopw [6, 7] (fun out i wq => ∃ j : Nat, j ≤ 8 ∧ i = .int .i64 j ∧ wq.ownsRow (w1.heap.size + 1) 5 1 out (4 * j) ((bytesL (V.list.take j)).map (Value.int .u8)) ∧ wq.heap[w1.heap.size]? = some (.cells V.cells 51 (0, 0)) ∧ Below w.heap.size w wq) (fun _ i _ => (8 - intOf i).toNat)
      case atStart => exact ⟨0, by omega, rfl, World.ownsRow_nil _ _ _ _, LAY.out.lv, LAY.out.bl⟩
      case round =>
        clear LAY hvlt
        obtain ⟨j, hj, rfl, hown, hlv, hbel⟩ := hrel
        have HOWN : Hid (World.ownsRow _ _ _ _ _ _ _) := hown
        have HLV : Hid _ := hlv
        have HBEL : Hid (Below _ _ _) := hbel
        clear hown hlv hbel
        have hvlt : w1.heap.size < wr.heap.size := (Array.getElem?_eq_some_iff.1 HLV.out).1
        by_cases hlt8 : j < 8
        · have hlt8' : (j : Int) < 8 := by omega
          have hj0 : (0 : Int) ≤ (j : Int) := by omega
          have C1 : wr.cell? ⟨w1.heap.size, j, none⟩ = some (.int .u32 (V.list.getD j 0)) := by
            rw [cell_of_row _ _ _ _ _ _ HLV.out, St.get V j hlt8]
          obtain ⟨r1, r2⟩ := St.rng V HOK.out j hlt8
          have HX : Hid _ := bytes_next V j hlt8
          revert HX C1 r1 r2
          generalize V.list.getD j 0 = x
          intro C1 r1 r2 HX
          have HW : Hid (wordB x = [IntKind.u8.wrap (x / 16777216), IntKind.u8.wrap (x / 65536), IntKind.u8.wrap (x / 256), IntKind.u8.wrap x]) := by
            show _ = _
            simp only [wordB, IntKind.wrap_u8]
          go_wp2_with fail
          go_region_held3 (fun w' => w'.cell? ⟨w1.heap.size, j, none⟩ = some (.int .u32 x)) (first | go_keep | (rw [cell_grow hgrow3 _ _ (by simp; omega) (fun e => by have := (HOWN.out.lt _ e.symm).1; omega)]; go_keep)) ((refine step_append_lies _ (by rfl) _ _ 48 (by rfl) (w1.heap.size + 1) 5 i5 (.int .u8 0) 1 1 Tryd.underlying48 HIN.out.1 HIN.out.2.1 HIN.out.2.2.1 HIN.out.2.2.2 rfl (by decide) _ _ _ (by rfl) (World.ownsRow.drew (HOWN.out.alloc _)) ⟨wr.heap.size, 0, none⟩ 4 4 [.int .u8 (IntKind.u8.wrap (x / 16777216)), .int .u8 (IntKind.u8.wrap (x / 65536)), .int .u8 (IntKind.u8.wrap (x / 256)), .int .u8 (IntKind.u8.wrap x)] (by rfl) rfl (four_new _ _ _ _ _ _) (fun u hu => by simp at hu; rcases hu with rfl | rfl | rfl | rfl <;> rfl) (by omega) (by unfold maxLen; omega) (by omega) (by simp; omega) _ rfl ?_; intro g3 cap3 w3 hown' hgrow3 hlies hglt))
          all_goals (
            have HO3 : Hid (World.ownsRow _ _ _ _ _ _ _) := hown'
            have HB3 : Hid (Below w.heap.size w w3) := Below.grown ((HBEL.out.alloc HBEL.out.size _).drew) hgrow3 (by have := HBEL.out.size; simp; omega) (fun j hj => by have := (HOWN.out.lt _ hj).1; omega)
            have HV3 : Hid (w3.heap[w1.heap.size]? = some (.cells V.cells 51 (0, 0))) := ((hgrow3.block _ (by simp; omega) (fun e => by have := (HOWN.out.lt _ e.symm).1; omega)).trans (Below.heap_alloc _ _ _ hvlt)).trans HLV.out
            clear hown' hgrow3 hlies hglt C1
            go_wp2
            go_roundw
            case rel =>
              refine ⟨j + 1, by omega, by go_num, ?_, HV3.out, HB3.out⟩
              rw [HX.out, HW.out, List.map_append]
              exact HO3.out
            case measure => simp [intOf]; omega)
        · have hlt8' : ¬ (j : Int) < 8 := by omega
          have e8 : j = 8 := by omega
          subst e8
          have hcv := own_conv wr (w1.heap.size + 1) _ (bytesL (V.list.take 8)) 32 (by rw [bytesL_length]; rfl) (by omega) HOWN.out
          have ht : str (bytesL (V.list.take 8)) = textF V := rfl
          have hve := HVE.out
          subst hve
          rw [ht, HT2.out] at hcv
          clear ht HT2
          go_wp2
          go_ret
          exact ⟨rfl, HBEL.out⟩
end Go.Proofs.YtmigdhohbjnhcaaDoor.re
