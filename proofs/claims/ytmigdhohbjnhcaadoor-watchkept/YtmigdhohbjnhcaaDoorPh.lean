import Derived.Test.YtmigdhohbjnhcaaDoorPg
namespace Go.Proofs.YtmigdhohbjnhcaaDoor.ph
open Go.RowKit Go.PlainAid
open Go.Proofs.YtmigdhohbjnhcaaDoor.pl Go.Proofs.YtmigdhohbjnhcaaDoor.pa Go.Proofs.YtmigdhohbjnhcaaDoor.pb Go.Proofs.YtmigdhohbjnhcaaDoor.pc Go.Proofs.YtmigdhohbjnhcaaDoor.pd Go.Proofs.YtmigdhohbjnhcaaDoor.pe Go.Proofs.YtmigdhohbjnhcaaDoor.pf Go.Proofs.YtmigdhohbjnhcaaDoor.pg
set_option linter.unusedVariables false

-- the words ahead of the first block, as the variable holds them
def ST (w : World) (v : St) : Prop := ∀ j, j < 8 → w.cell? ⟨1, j, none⟩ = some (.int .u32 (v.list.getD j 0))
theorem ST.lt {w : World} {v : St} (h : ST w v) : 1 < w.heap.size := World.block_lt_of_cell? w ⟨1, 0, none⟩ (h 0 (by omega))

-- a Hash at block h that has taken the text t
structure HashAt (kk : Nat → Int) (v0 : St) (w : World) (h : Nat) (t : ByteArray) : Prop where
  big : 4 ≤ h
  ex : ∃ L, Inv (bt t) t.size L ∧ w.heap[h]? = some (.cells (hcells (hs kk (bt t) v0 (t.size / 64)) L t.size) 58 (0, 0))

theorem HashAt.lt {kk : Nat → Int} {v0 : St} {w : World} {h : Nat} {t : ByteArray} (x : HashAt kk v0 w h t) : h < w.heap.size := by
  obtain ⟨L, _, hh⟩ := x.ex
  exact (Array.getElem?_eq_some_iff.1 hh).1
theorem HashAt.keep {kk : Nat → Int} {v0 : St} {w w' : World} {h : Nat} {t : ByteArray} (x : HashAt kk v0 w h t) (e : w'.heap[h]? = w.heap[h]?) : HashAt kk v0 w' h t := by
  obtain ⟨L, hi, hh⟩ := x.ex
  exact ⟨x.big, L, hi, e.trans hh⟩
theorem HashAt.below {kk : Nat → Int} {v0 : St} {w w' : World} {h B : Nat} {t : ByteArray} (x : HashAt kk v0 w h t) (b : Below B w w') (hB : h < B) : HashAt kk v0 w' h t := x.keep (b.block h hB)
theorem HashAt.keeps {kk : Nat → Int} {v0 : St} {w w' : World} {h k : Nat} {t : ByteArray} (x : HashAt kk v0 w h t) (b : Keeps k w w') (hne : h ≠ k) : HashAt kk v0 w' h t := x.keep (b.block h x.lt hne)

def zL : List Int := List.replicate 64 0
theorem inv_empty (g : Nat → Int) (L : List Int) (hl : L = zL) : Inv g 0 L := by
  subst hl
  refine ⟨rfl, fun j hj => ?_, fun j hj => by omega⟩
  have : zL.getD j 0 = 0 := by rw [zL, List.getD, List.getElem?_replicate, if_pos hj]; rfl
  rw [this]; omega

theorem hcells_sz (s : St) (L : List Int) (sz : Int) (h : L.length = 64) : (hcells s L sz)[72]? = some (.int .i64 sz) := by
  rw [hcells, hc, List.getElem?_toArray, List.getElem?_append_right (by simp [St.list]), List.length_map, St.len, List.getElem?_append_right (by simp [h])]
  simp [h]
theorem hcells_setsz (s : St) (L : List Int) (sz x : Int) (h : L.length = 64) : (hcells s L sz).setIfInBounds 72 (.int .i64 x) = hcells s L x := by
  simp only [hcells, hc, List.setIfInBounds_toArray]
  rw [List.set_append_right _ _ (by simp [St.list]), List.length_map, St.len, List.set_append_right _ _ (by simp [h])]
  simp [h]
theorem hcells_size (s : St) (L : List Int) (sz : Int) (h : L.length = 64) : (hcells s L sz).size = 73 := by simp [hcells, hc, h, St.list]
theorem hcells_one (s : St) (L : List Int) (sz : Int) : (hcells s L sz).all (·.oneCell') = true := by simp [hcells, hc, St.list, Value.oneCell']

theorem infoH : (Tryd.prog.info? 58).map (·.size) = some 73 := by kernel_rfl

theorem wpList_build {P : Program} {ops : Array Oper} {rest : List Oper} {o : Oper} {a : Act} {w : World} {Q : Exit → Act → World → Prop} (hgd : o.guard = none) (t : TypeId) (ps : Array (Nat × Operand)) (ho : o.op = .build t ps) (v : Value)
    (hrun : (Instr.build t (ps.map fun (i, x) => (i, a.eval x))).run P w = .ok v w) (h : wpList P ops Q rest (a.put o.dst v) w) : wpList P ops Q (o :: rest) a w := by
  refine wpList_plain hgd fun K hK => ?_
  unfold Oper.wp execOp
  simp only [ho, Sem.run_bind, hrun, Result.andThen_ok, Sem.run_pure]
  exact hK _ _ h
theorem wpList_alloc {P : Program} {ops : Array Oper} {rest : List Oper} {o : Oper} {a : Act} {w : World} {Q : Exit → Act → World → Prop} (hgd : o.guard = none) (t : TypeId) (ho : o.op = .alloc t) (v : Value) (w' : World)
    (hrun : (Instr.alloc t true (.tuple #[])).run P w = .ok v w') (h : wpList P ops Q rest (a.put o.dst v) w') : wpList P ops Q (o :: rest) a w := by
  refine wpList_plain hgd fun K hK => ?_
  unfold Oper.wp execOp
  simp only [ho, Sem.run_bind, hrun, Result.andThen_ok, Sem.run_pure]
  exact hK _ _ h

def zSt : St := ⟨0, 0, 0, 0, 0, 0, 0, 0⟩
theorem build73 (s : St) (W : World) : (Instr.build 58 #[(0, .agg s.cells)]).run Tryd.prog W = .ok (.agg (hcells s zL 0)) W := by kernel_rfl
theorem alloc73 (W : World) : (Instr.alloc 58 true (.tuple #[])).run Tryd.prog W = .ok (.pointer (some ⟨W.heap.size, 0, none⟩)) (W.alloc (.cells (hcells zSt zL 0) 58)) := by kernel_rfl

theorem wpList_build73 {ops : Array Oper} {rest : List Oper} {o : Oper} {a : Act} {w : World} {Q : Exit → Act → World → Prop} (hgd : o.guard = none) (x : Operand) (ho : o.op = .build 58 #[(0, x)]) (s : St)
    (hx : a.eval x = .agg s.cells) (h : wpList Tryd.prog ops Q rest (a.put o.dst (.agg (hcells s zL 0))) w) : wpList Tryd.prog ops Q (o :: rest) a w := by
  refine wpList_build hgd 58 #[(0, x)] ho (.agg (hcells s zL 0)) ?_ h
  have e : (#[(0, x)].map fun ((i, x) : Nat × Operand) => (i, a.eval x)) = #[(0, .agg s.cells)] := by simp [hx]
  exact (congrArg (fun z => Sem.run Tryd.prog (Instr.build 58 z) w) e).trans (build73 s w)

set_option maxRecDepth 100000 in
theorem new (kk : Nat → Int) (v0 : St) (w : World) (HS : Hid (ST w v0)) (h4 : 4 ≤ w.heap.size) :
    Calls Tryd.prog 16 #[] w fun e w' => e = .returned (.pointer (some ⟨w.heap.size, 0, none⟩)) ∧ Below w.heap.size w w' ∧ HashAt kk v0 w' w.heap.size ByteArray.empty := by
  obtain ⟨a, b, c, d, e, f, g, h⟩ := v0
  have X0 : w.cell? ⟨1, 0, none⟩ = some (.int .u32 a) := HS.out 0 (by omega)
  have X1 : w.cell? ⟨1, 1, none⟩ = some (.int .u32 b) := HS.out 1 (by omega)
  have X2 : w.cell? ⟨1, 2, none⟩ = some (.int .u32 c) := HS.out 2 (by omega)
  have X3 : w.cell? ⟨1, 3, none⟩ = some (.int .u32 d) := HS.out 3 (by omega)
  have X4 : w.cell? ⟨1, 4, none⟩ = some (.int .u32 e) := HS.out 4 (by omega)
  have X5 : w.cell? ⟨1, 5, none⟩ = some (.int .u32 f) := HS.out 5 (by omega)
  have X6 : w.cell? ⟨1, 6, none⟩ = some (.int .u32 g) := HS.out 6 (by omega)
  have X7 : w.cell? ⟨1, 7, none⟩ = some (.int .u32 h) := HS.out 7 (by omega)
  go_enter Tryd.func16, Tryd.ntmps16
  go_wp2_with (refine wpList_build73 rfl (.tmp 1) rfl ⟨a, b, c, d, e, f, g, h⟩ rfl ?_)
  go_ret
  refine ⟨rfl, (Below.refl _ _).alloc (Nat.le_refl _) _, ⟨h4, zL, inv_empty _ _ rfl, ?_⟩⟩
  exact heap_alloc_new w _

set_option maxRecDepth 100000 in

set_option maxRecDepth 100000 in
theorem copy (kk : Nat → Int) (v0 : St) (h : Nat) (t : ByteArray) (w : World) (HH : Hid (HashAt kk v0 w h t)) :
    Calls Tryd.prog 30 #[.pointer (some ⟨h, 0, none⟩)] w fun e w' => e = .returned (.pointer (some ⟨w.heap.size, 0, none⟩)) ∧ Below w.heap.size w w' ∧ HashAt kk v0 w' w.heap.size t := by
  obtain ⟨h4, L, hi, hh⟩ := HH.out
  have hlt := HH.out.lt
  have HL : Hid (L.length = 64) := hi.len
  have HC : Hid _ := hh
  have HI : Hid (Inv _ _ _) := hi
  have HZ : Hid ((Tryd.prog.info? 58).map (·.size) = some (hcells (hs kk (bt t) v0 (t.size / 64)) L t.size).size) := by show _ = _; rw [hcells_size _ _ _ HL.out]; exact infoH
  clear hi hh HH
  go_enter Tryd.func30, Tryd.ntmps30
  go_wp2_with (first | (refine wpList_load_row rfl 58 (.tmp 5) rfl h rfl 58 _ (0, 0) _ HC.out Tryd.underlying58 rfl HZ.out ?_) | (refine wpList_alloc rfl 58 rfl _ _ (alloc73 _) ?_) | (refine wpList_store_row rfl 58 (.tmp 3) (.tmp 6) rfl w.heap.size (hcells (hs kk (bt t) v0 (t.size / 64)) L t.size) rfl rfl 58 (hcells zSt zL 0) (heap_alloc_new w _) HZ.out (by rw [hcells_size _ _ _ HL.out, hcells_size _ _ _ rfl]) (hcells_one _ _ _) ?_; rw [World.setRow_alloc_new]))
  go_ret
  refine ⟨rfl, (Below.refl _ _).alloc (Nat.le_refl _) _, ⟨by omega, L, HI.out, ?_⟩⟩
  exact heap_alloc_new w _


end Go.Proofs.YtmigdhohbjnhcaaDoor.ph
