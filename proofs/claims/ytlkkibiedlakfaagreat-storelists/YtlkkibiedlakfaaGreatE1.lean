import Derived.Test.YtlkkibiedlakfaaGreatE0
import Derived.Test.YtlkkibiedlakfaaGreatNb
import Derived.Lib.AppendStr
namespace Go.Proofs.YtlkkibiedlakfaaGreat.xi
open Go.RowKit Go.PlainAid Go.Maps Go.Shelf
open Go.Proofs.YtlkkibiedlakfaaGreat.ca Go.Proofs.YtlkkibiedlakfaaGreat.cb Go.Proofs.YtlkkibiedlakfaaGreat.cp Go.Proofs.YtlkkibiedlakfaaGreat.kp Go.Proofs.YtlkkibiedlakfaaGreat.ka Go.Proofs.YtlkkibiedlakfaaGreat.ya Go.Proofs.YtlkkibiedlakfaaGreat.yb Go.Proofs.YtlkkibiedlakfaaGreat.yc Go.Proofs.YtlkkibiedlakfaaGreat.yd Go.Proofs.YtlkkibiedlakfaaGreat.ye Go.Proofs.YtlkkibiedlakfaaGreat.yf Go.Proofs.YtlkkibiedlakfaaGreat.yi Go.Proofs.YtlkkibiedlakfaaGreat.yo Go.Proofs.YtlkkibiedlakfaaGreat.yp Go.Proofs.YtlkkibiedlakfaaGreat.zf Go.Proofs.YtlkkibiedlakfaaGreat.zg Go.Proofs.YtlkkibiedlakfaaGreat.xa Go.Proofs.YtlkkibiedlakfaaGreat.xb Go.Proofs.YtlkkibiedlakfaaGreat.xc
set_option linter.unusedVariables false
set_option linter.unusedSimpArgs false
abbrev bc := Lib.byteCells
theorem bc_str (s : ByteArray) : Lib.strCells s = bc (bs s) := by
  simp [Lib.strCells, Lib.byteCells, bs]
theorem bc_app (l l' : List UInt8) : bc (l ++ l') = bc l ++ bc l' := by simp [bc, Lib.byteCells]
theorem bc_len (l : List UInt8) : (bc l).length = l.length := by simp [bc, Lib.byteCells]
theorem info_u8 : (Tryz.prog.info? 5).map (fun i => (i.zero, i.size, i.bytes)) = some (some (.int .u8 0), 1, 1) := by kernel_rfl
-- a row of bytes of the call's own, read as a text
theorem conv_own {B : Nat} {v : Value} {l : List UInt8} {w : World} (h : w.ownsRow B 5 1 v l.length (bc l)) (hp : 0 < l.length) : (convert 125 9 v).run Tryz.prog w = .ok (.string (tx l)) w := by
  rcases h.2 with ⟨_, h0⟩ | ⟨g, cap, cur, rfl, _, h3, h4, h5, h6, h7⟩
  · omega
  · rw [run_convert_bytes_string _ 125 9 5 _ _ _ Tryz.underlying125 Tryz.underlying5 Tryz.underlying9]
    have e1 : tx l = (l.map fun b => (b.toNat : Int)).foldl (fun r n => r.push (UInt8.ofNat n.toNat)) ByteArray.empty := by
      apply bs_inj
      rw [bs_tx]
      have := nb.foldl_data (l.map fun b => (b.toNat : Int)) ByteArray.empty
      unfold bs
      rw [this]
      have hid : ((fun n : Int => UInt8.ofNat n.toNat) ∘ fun b : UInt8 => (b.toNat : Int)) = id := by funext b; simp
      simp [hid]
    rw [e1]
    refine run_bytesToString _ _ _ _ (l.map fun b => (b.toNat : Int)) ?_
    have h8 := run_loadCells_list (P := Tryz.prog) (w := w) ⟨g, 0, none⟩ ((l.map fun b => (b.toNat : Int)).map (Value.int .u8)) ?_
    · simpa using h8
    · intro j x hj
      have e : (Addr.add ⟨g, 0, none⟩ j) = ⟨g, j, none⟩ := by simp [Addr.add]; omega
      have hjl : j < l.length := by
        have := (List.getElem?_eq_some_iff.1 hj).1
        simpa using this
      rw [e, cell_of_row _ _ _ _ _ _ h3]
      have h9 : (cur.toList.take (l.length * 1))[j]? = (bc l)[j]? := by rw [h7]
      rw [List.getElem?_take_of_lt (by omega)] at h9
      have h10 : (bc l)[j]? = some x := by
        rw [← hj]; simp only [bc, Lib.byteCells, List.getElem?_map, Option.map_map]; rfl
      rw [h10] at h9
      simpa using h9
theorem tr1 : (5 : Nat) ≠ 82 := by decide
structure Im (w : World) (bv : Value) (l : List UInt8) (pk pd : ByteArray) (pb : Nat) (wx : World) : Prop where
  own : wx.ownsRow w.heap.size 5 1 bv l.length (bc l)
  bl : Below w.heap.size w wx
  box : wx.heap[pb]? = some (.cells #[.string pk, .string pd] 82 (0, 0))
theorem Im.later {w w1 w2 : World} {bv : Value} {l : List UInt8} {pk pd : ByteArray} {pb : Nat} (h : Im w bv l pk pd pb w1) (b : Below w1.heap.size w1 w2) : Im w bv l pk pd pb w2 :=
  ⟨own_kp h.own (Kp.of_below (A := fun _ => False) b) (fun _ _ e => e), over h.bl b, (b.block _ (Array.getElem?_eq_some_iff.1 h.box).1).trans h.box⟩
theorem Im.grown {w w1 w2 : World} {bv bv' : Value} {l l' : List UInt8} {pk pd : ByteArray} {pb : Nat} (h : Im w bv l pk pd pb w1) (o : w2.ownsRow w.heap.size 5 1 bv' (l.length + l'.length) (bc l ++ bc l')) (hg : w1.grownBy w2 bv.ownBlock) : Im w bv' (l ++ l') pk pd pb w2 := by
  refine ⟨?_, below_grownBy h.bl hg (Nat.le_refl _) (fun i hi => (h.own.lt _ hi).1), (hg.block _ (Array.getElem?_eq_some_iff.1 h.box).1 (own_tag h.own h.box tr1)).trans h.box⟩
  rw [List.length_append, bc_app]
  exact o
theorem Im.cells {w w1 : World} {bv : Value} {l : List UInt8} {pk pd : ByteArray} {pb : Nat} (h : Im w bv l pk pd pb w1) : w1.cell? ⟨pb, 0, none⟩ = some (.string pk) ∧ w1.cell? ⟨pb, 1, none⟩ = some (.string pd) :=
  ⟨cell_of_row _ _ 0 _ _ _ h.box, cell_of_row _ _ 1 _ _ _ h.box⟩
theorem new_four (W : World) (u v x y : Value) (t : TypeId) : ∀ (j : Nat) (z : Value), [u, v, x, y][j]? = some z → (W.alloc (.cells #[u, v, x, y] t)).cell? (Addr.add ⟨W.heap.size, 0, none⟩ j) = some z := by
  intro j z h
  have hb : (W.alloc (.cells #[u, v, x, y] t)).heap[W.heap.size]? = some (.cells #[u, v, x, y] t (0, 0)) := (MapKept.heap_alloc W _).1
  have e : (Addr.add ⟨W.heap.size, 0, none⟩ j) = ⟨W.heap.size, j, none⟩ := by simp [Addr.add]; omega
  rw [e, cell_of_row _ _ j _ _ _ hb]
  simpa using h
theorem bytes1 (n : Nat) (h : n < 256) : bc (beN 1 n 1) = [.int .u8 n] := by
  simp [bc, Lib.byteCells, beN]
  omega
theorem bytes4 (n : Nat) (h : n < 16777216) : bc (beN 4 n 4) = [.int .u8 0, .int .u8 ((n / 65536 % 256 : Nat) : Int), .int .u8 ((n / 256 % 256 : Nat) : Int), .int .u8 ((n % 256 : Nat) : Int)] := by
  simp [bc, Lib.byteCells, beN]
  omega
end Go.Proofs.YtlkkibiedlakfaaGreat.xi

namespace Go.Proofs.YtlkkibiedlakfaaGreat.xj
open Go.RowKit Go.PlainAid Go.Maps Go.Shelf
open Go.Proofs.YtlkkibiedlakfaaGreat.ca Go.Proofs.YtlkkibiedlakfaaGreat.cb Go.Proofs.YtlkkibiedlakfaaGreat.cp Go.Proofs.YtlkkibiedlakfaaGreat.kp Go.Proofs.YtlkkibiedlakfaaGreat.ka Go.Proofs.YtlkkibiedlakfaaGreat.ya Go.Proofs.YtlkkibiedlakfaaGreat.yb Go.Proofs.YtlkkibiedlakfaaGreat.yc Go.Proofs.YtlkkibiedlakfaaGreat.yd Go.Proofs.YtlkkibiedlakfaaGreat.ye Go.Proofs.YtlkkibiedlakfaaGreat.yf Go.Proofs.YtlkkibiedlakfaaGreat.yi Go.Proofs.YtlkkibiedlakfaaGreat.yo Go.Proofs.YtlkkibiedlakfaaGreat.yp Go.Proofs.YtlkkibiedlakfaaGreat.zf Go.Proofs.YtlkkibiedlakfaaGreat.zg Go.Proofs.YtlkkibiedlakfaaGreat.xa Go.Proofs.YtlkkibiedlakfaaGreat.xb Go.Proofs.YtlkkibiedlakfaaGreat.xc Go.Proofs.YtlkkibiedlakfaaGreat.xi
set_option linter.unusedVariables false
set_option linter.unusedSimpArgs false
theorem one_i (x : Int) : ∀ u ∈ [Value.int .u8 x], u.oneCell' = true := by
  intro u hu; simp only [List.mem_cons, List.not_mem_nil, or_false] at hu; rcases hu with rfl; rfl
theorem four_i (a b c d : Int) : ∀ u ∈ [Value.int .u8 a, .int .u8 b, .int .u8 c, .int .u8 d], u.oneCell' = true := by
  intro u hu; simp only [List.mem_cons, List.not_mem_nil, or_false] at hu; rcases hu with rfl | rfl | rfl | rfl <;> rfl
theorem imageT_tx (r : List Rec) : imageT r = tx (imgB r) := rfl
set_option maxRecDepth 40000 in
set_option maxHeartbeats 12800000 in
theorem imageD {B g : Nat} {dv wv vv : Value} {s : S} {w : World} (h : Ds B g dv wv vv s w) (hz : isz s.dur ≤ 140737488355000) :
    Calls Tryz.prog 31 #[.pointer (some ⟨g, 0, none⟩)] w fun e w' => e = .returned (.string (imageT s.dur)) ∧ Below w.heap.size w w' := by
  have H : Hid (Ds B g dv wv vv s w) := h
  obtain ⟨da, dc, hdv⟩ := lr_form h.dl
  subst hdv
  obtain ⟨i0, hi, hz0, hz1, hz2⟩ := info_parts info_u8
  have HIN : Hid (_ ∧ _ ∧ _ ∧ _) := ⟨hi, hz0, hz1, hz2⟩
  clear hi hz0 hz1 hz2
  have DC : Hid (∀ (j : Nat) (p : Rec), s.dur[j]? = some p → (p.1.size ≤ 64 ∧ p.2.size ≤ 1048576) ∧ ∃ gv, da = some ⟨gv, 0, none⟩ ∧ ∀ wr, Below w.heap.size w wr → wr.cell? ⟨gv, j * 2, none⟩ = some (.string p.1) ∧ wr.cell? ⟨gv, j * 2 + 1, none⟩ = some (.string p.2)) := fun j p hp => by
    obtain ⟨gv, e, hg, q1, q2⟩ := lr_at H.out.dl j p hp
    have hk := H.out.ok.dur p (List.mem_of_getElem? hp)
    exact ⟨⟨hk.2.1, hk.2.2⟩, gv, e, fun wr b => ⟨(b.cell hg).trans q1, (b.cell hg).trans q2⟩⟩
  have C1 : Hid (∀ wr, Below w.heap.size w wr → wr.cell? ⟨g, 1, none⟩ = some (.slice da s.dur.length dc)) := fun wr b => (H.out.later b).row.c1
  obtain ⟨D, HD⟩ : ∃ D, Hid (s.dur = D) := ⟨_, rfl⟩
  rw [HD.out] at DC C1 hz ⊢
  obtain ⟨L, hL⟩ : ∃ L, D.length = L := ⟨_, rfl⟩
  have HLL : Hid _ := hL
  have hLb : L ≤ 140737488355000 := by have := len_isz D; omega
  rw [hL] at C1
  rw [imageT_tx]
  clear h hL
  have A0 : Hid (World.ownsRow (w.alloc (.cells #[.int .u8 83] 5)) w.heap.size 5 1 (.slice none 0 0) 0 []) := World.ownsRow_nil _ _ _ _
  have b0 : Hid (Below w.heap.size w (w.alloc (.cells #[.int .u8 83] 5))) := (Below.refl _ w).alloc (Nat.le_refl _) _
  go_enter Tryz.func31, Tryz.ntmps31
  go_wp2_with (first | (at_builtin; (refine wpList_append_own _ rfl _ _ 125 rfl w.heap.size 5 i0 (.int .u8 0) 1 1 Tryz.underlying125 HIN.out.1 HIN.out.2.1 HIN.out.2.2.1 HIN.out.2.2.2 rfl (by decide) _ 0 _ rfl A0.out ⟨w.heap.size, 0, none⟩ 1 1 [.int .u8 83] rfl rfl (new_text _ _ _) (one_i _) (by unfold maxLen; omega) (by omega) (by simp; try omega) ?_; intro v1 w1 ho hg hnn; have HO1 : Hid (World.ownsRow _ _ _ _ _ _ _) := ho; have HG1 : Hid (World.grownBy _ _ _) := hg; clear ho hg hnn)) | go_in)
  have I1 : Hid (w1.ownsRow w.heap.size 5 1 v1 (imgB (D.take 0)).length (bc (imgB (D.take 0))) ∧ Below w.heap.size w w1) := ⟨HO1.out, below_grownBy b0.out HG1.out (Nat.le_refl _) (fun i hi => by cases hi)⟩
  clear HO1 HG1 A0 b0
  go_loopw [3, 4] (fun bv iv wr => ∃ j : Nat, j ≤ L ∧ iv = .int .i64 j ∧ Hid (wr.ownsRow w.heap.size 5 1 bv (imgB (D.take j)).length (bc (imgB (D.take j))) ∧ Below w.heap.size w wr)) (fun _ iv _ => (L - intOf iv).toNat)
  case atStart => exact ⟨0, Nat.zero_le _, rfl, I1.out⟩
  case round =>
    clear I1
    obtain ⟨j, hj, rfl, HH⟩ := hrel
    have c1 := C1.out wr HH.out.2
    obtain ⟨oa, oc, hov⟩ := own_formS HH.out.1
    subst hov
    by_cases hlt : j < L
    · have hlt' : (j : Int) < L := by omega
      have HJ1 : Hid (j + 1 ≤ L) := hlt
      obtain ⟨p, hp⟩ : ∃ p, D[j]? = some p := ⟨_, List.getElem?_eq_getElem (by have := HLL.out; omega)⟩
      obtain ⟨⟨hpk, hpd⟩, gv, hda, hcx⟩ := DC.out j p hp
      obtain ⟨q0, q1⟩ := hcx wr HH.out.2
      have hnx := img_next D j p hp
      have hi1 := imgB_len (D.take j)
      have hi2 := imgB_len (D.take (j + 1))
      have hi3 := isz_take D (j + 1)
      have hi4 := isz_at D j p hp
      obtain ⟨pk, pd⟩ := p
      simp only at hpk hpd q0 q1 hnx hi4
      obtain ⟨I, HI⟩ : ∃ I, Hid (imgB (D.take j) = I) := ⟨_, rfl⟩
      rw [HI.out] at hnx HH hi1 ⊢
      obtain ⟨n, HN⟩ : ∃ n, Hid (I.length = n) := ⟨_, rfl⟩
      have hn0 := HN.out
      rw [HN.out] at HH ⊢
      have hnb : n + 1 + pk.size + 4 + pd.size ≤ 140737488355000 := by omega
      have HNX : Hid (imgB (D.take (j + 1)) = ((I ++ beN 1 pk.size 1) ++ bs pk ++ beN 4 pd.size 4) ++ bs pd) := by
        show _ = _
        rw [hnx]; simp only [recB, List.append_assoc]
      subst hda
      clear hp hcx hnx hi1 hi2 hi3 hi4
      obtain ⟨wa, HWA⟩ : ∃ x, x = wr.alloc (.cells #[.string pk, .string pd] 82) := ⟨_, rfl⟩
      obtain ⟨pb, hpb⟩ : ∃ x, wr.heap.size = x := ⟨_, rfl⟩
      have M0 : Hid (Im w (.slice oa n oc) I pk pd pb wa) := by
        rw [HWA, ← hpb]
        have b : Below wr.heap.size wr (wr.alloc (.cells #[.string pk, .string pd] 82)) := (Below.refl _ wr).alloc (Nat.le_refl _) _
        exact ⟨by rw [HN.out]; exact own_kp HH.out.1 (Kp.of_below (A := fun _ => False) b) (fun _ _ e => e), over HH.out.2 b, heap_alloc_new wr _⟩
      go_upto_region 7 with fail
      rw [← HWA]
      clear HWA hpb q0 q1 c1
      obtain ⟨r0, r1⟩ := M0.out.cells
      have hwk : IntKind.u8.wrap (pk.size : Int) = (pk.size : Int) := by rw [IntKind.wrap_u8]; omega
      have hs0 : w.heap.size ≤ wa.heap.size := M0.out.bl.size
      have M1 : Hid (Im w (.slice oa n oc) I pk pd pb (wa.alloc (.cells #[.int .u8 (pk.size : Int)] 5))) := M0.out.later ((Below.refl _ wa).alloc (Nat.le_refl _) _)
      have R1 : Hid (World.ownsRow (wa.alloc (.cells #[.int .u8 (pk.size : Int)] 5)) w.heap.size 5 1 (.slice oa n oc) n (bc I)) := by have := M1.out.own; rw [HN.out] at this; exact this
      go_upto_region 9 with (first | (at_builtin; (refine wpList_append_own _ rfl _ _ 125 rfl w.heap.size 5 i0 (.int .u8 0) 1 1 Tryz.underlying125 HIN.out.1 HIN.out.2.1 HIN.out.2.2.1 HIN.out.2.2.2 rfl (by decide) _ n _ rfl R1.out ⟨wa.heap.size, 0, none⟩ 1 1 [.int .u8 (pk.size : Int)] rfl rfl (new_text _ _ _) (one_i _) (by unfold maxLen; omega) (by omega) (by simp; omega) ?_; intro v1 w1 ho hg hnn; have HO1 : Hid (World.ownsRow _ _ _ _ _ _ _) := ho; have HG1 : Hid (World.grownBy _ _ _) := hg; clear ho hg hnn)) | go_in)
      have M2 : Hid (Im w v1 (I ++ beN 1 pk.size 1) pk pd pb w1) := M1.out.grown (by rw [HN.out, beN_len, bytes1 _ (by omega)]; exact HO1.out) HG1.out
      obtain ⟨r2, r3⟩ := M2.out.cells
      have hs1 : w.heap.size ≤ w1.heap.size := M2.out.bl.size
      have R2 : Hid (World.ownsRow w1 w.heap.size 5 1 v1 (n + 1) (bc (I ++ beN 1 pk.size 1))) := by have := M2.out.own; rw [List.length_append, beN_len, HN.out] at this; exact this
      clear M0 M1 R1 HO1 HG1 r0 r1
      go_upto_region 10 with (first | (at_builtin; (refine Lib.wpList_append_own_string _ rfl _ _ 125 9 rfl w.heap.size 5 i0 Tryz.underlying125 Tryz.underlying9 HIN.out.1 HIN.out.2.1 HIN.out.2.2.1 HIN.out.2.2.2 _ (n + 1) _ rfl R2.out pk rfl (by unfold maxLen; omega) (by omega) (by omega) ?_; intro v2 w2 ho hg hnn; have HO2 : Hid (World.ownsRow _ _ _ _ _ _ _) := ho; have HG2 : Hid (World.grownBy _ _ _) := hg; clear ho hg hnn)) | go_in)
      have M3 : Hid (Im w v2 (I ++ beN 1 pk.size 1 ++ bs pk) pk pd pb w2) := M2.out.grown (by have := HO2.out; rw [bc_str] at this; rw [List.length_append, beN_len, HN.out, bs_len]; exact this) HG2.out
      obtain ⟨r4, r5⟩ := M3.out.cells
      have hs2 : w.heap.size ≤ w2.heap.size := M3.out.bl.size
      obtain ⟨z, hz1⟩ : ∃ z, pd.size = z := ⟨_, rfl⟩
      obtain ⟨a2, ha2⟩ : ∃ x, z / 65536 = x := ⟨_, rfl⟩
      obtain ⟨a3, ha3⟩ : ∃ x, z / 256 = x := ⟨_, rfl⟩
      obtain ⟨b2, hb2⟩ : ∃ x, a2 % 256 = x := ⟨_, rfl⟩
      obtain ⟨b3, hb3⟩ : ∃ x, a3 % 256 = x := ⟨_, rfl⟩
      obtain ⟨b4, hb4⟩ : ∃ x, z % 256 = x := ⟨_, rfl⟩
      have HB4 : Hid (bc (beN 4 pd.size 4) = [.int .u8 0, .int .u8 (b2 : Int), .int .u8 (b3 : Int), .int .u8 (b4 : Int)]) := by
        show _ = _
        rw [bytes4 pd.size (by omega), hz1, ha2, ha3, hb2, hb3, hb4]
      have e1 : Int.tdiv (z : Int) 16777216 = 0 := by
        have h1 : Int.tdiv (z : Int) 16777216 = ((z / 16777216 : Nat) : Int) := rfl
        rw [h1, Nat.div_eq_of_lt (by omega)]; rfl
      have e2 : Int.tdiv (z : Int) 65536 = (a2 : Int) := by rw [← ha2]; rfl
      have e3 : Int.tdiv (z : Int) 256 = (a3 : Int) := by rw [← ha3]; rfl
      have e4 : Int.tmod (a2 : Int) 256 = (b2 : Int) := by rw [← hb2]; rfl
      have e5 : Int.tmod (a3 : Int) 256 = (b3 : Int) := by rw [← hb3]; rfl
      have e6 : Int.tmod (z : Int) 256 = (b4 : Int) := by rw [← hb4]; rfl
      have hb2' : b2 < 256 := by omega
      have hb3' : b3 < 256 := by omega
      have hb4' : b4 < 256 := by omega
      have ha2' : a2 ≤ 1048576 := by omega
      have ha3' : a3 ≤ 1048576 := by omega
      have w1' : IntKind.i64.wrap (a2 : Int) = a2 := wrap_is _ (by omega)
      have w2' : IntKind.i64.wrap (a3 : Int) = a3 := wrap_is _ (by omega)
      have w3 : IntKind.i64.wrap (b2 : Int) = b2 := wrap_is _ (by omega)
      have w4 : IntKind.i64.wrap (b3 : Int) = b3 := wrap_is _ (by omega)
      have w5 : IntKind.i64.wrap (b4 : Int) = b4 := wrap_is _ (by omega)
      have w6 : IntKind.u8.wrap (b2 : Int) = b2 := by rw [IntKind.wrap_u8]; omega
      have w7 : IntKind.u8.wrap (b3 : Int) = b3 := by rw [IntKind.wrap_u8]; omega
      have w8 : IntKind.u8.wrap (b4 : Int) = b4 := by rw [IntKind.wrap_u8]; omega
      have M4 : Hid (Im w v2 (I ++ beN 1 pk.size 1 ++ bs pk) pk pd pb (w2.alloc (.cells #[.int .u8 0, .int .u8 (b2 : Int), .int .u8 (b3 : Int), .int .u8 (b4 : Int)] 5))) := M3.out.later ((Below.refl _ w2).alloc (Nat.le_refl _) _)
      have R4 : Hid (World.ownsRow (w2.alloc (.cells #[.int .u8 0, .int .u8 (b2 : Int), .int .u8 (b3 : Int), .int .u8 (b4 : Int)] 5)) w.heap.size 5 1 v2 (n + 1 + pk.size) (bc (I ++ beN 1 pk.size 1 ++ bs pk))) := by have := M4.out.own; rw [List.length_append, List.length_append, beN_len, HN.out, bs_len] at this; exact this
      have hzz : z ≤ 1048576 := by omega
      have hnz : n + 1 + pk.size + 4 + z ≤ 140737488355000 := by omega
      clear ha2 ha3 hb2 hb3 hb4 M2 R2 HO2 HG2 r2 r3
      go_upto_region 11 with (first | (at_builtin; (refine wpList_append_own _ rfl _ _ 125 rfl w.heap.size 5 i0 (.int .u8 0) 1 1 Tryz.underlying125 HIN.out.1 HIN.out.2.1 HIN.out.2.2.1 HIN.out.2.2.2 rfl (by decide) _ (n + 1 + pk.size) _ rfl R4.out ⟨w2.heap.size, 0, none⟩ 4 4 [.int .u8 0, .int .u8 (b2 : Int), .int .u8 (b3 : Int), .int .u8 (b4 : Int)] rfl rfl (new_four _ _ _ _ _ _) (four_i _ _ _ _) (by unfold maxLen; omega) (by omega) (by simp; omega) ?_; intro v3 w9 ho hg hnn; have HO3 : Hid (World.ownsRow _ _ _ _ _ _ _) := ho; have HG3 : Hid (World.grownBy _ _ _) := hg; clear ho hg hnn)) | go_in)
      have M5 : Hid (Im w v3 (I ++ beN 1 pk.size 1 ++ bs pk ++ beN 4 pd.size 4) pk pd pb w9) := M4.out.grown (by rw [List.length_append, List.length_append, beN_len, beN_len, HN.out, bs_len, HB4.out]; exact HO3.out) HG3.out
      obtain ⟨r6, r7⟩ := M5.out.cells
      have hs3 : w.heap.size ≤ w9.heap.size := M5.out.bl.size
      have R5 : Hid (World.ownsRow w9 w.heap.size 5 1 v3 (n + 1 + pk.size + 4) (bc (I ++ beN 1 pk.size 1 ++ bs pk ++ beN 4 pd.size 4))) := by have := M5.out.own; rw [List.length_append, List.length_append, List.length_append, beN_len, beN_len, HN.out, bs_len] at this; exact this
      clear M4 R4 HO3 HG3 r4 r5
      go_wp2_with (first | (at_builtin; (refine Lib.wpList_append_own_string _ rfl _ _ 125 9 rfl w.heap.size 5 i0 Tryz.underlying125 Tryz.underlying9 HIN.out.1 HIN.out.2.1 HIN.out.2.2.1 HIN.out.2.2.2 _ (n + 1 + pk.size + 4) _ rfl R5.out pd rfl (by unfold maxLen; omega) (by omega) (by omega) ?_; intro v4 w10 ho hg hnn; have HO4 : Hid (World.ownsRow _ _ _ _ _ _ _) := ho; have HG4 : Hid (World.grownBy _ _ _) := hg; clear ho hg hnn)) | go_in)
      have M6 : Hid (Im w v4 (I ++ beN 1 pk.size 1 ++ bs pk ++ beN 4 pd.size 4 ++ bs pd) pk pd pb w10) := M5.out.grown (by have := HO4.out; rw [bc_str] at this; rw [List.length_append, List.length_append, List.length_append, beN_len, beN_len, HN.out, bs_len, bs_len]; exact this) HG4.out
      go_roundw
      case rel => exact ⟨j + 1, HJ1.out, by go_num, by rw [HNX.out]; exact ⟨M6.out.own, M6.out.bl⟩⟩
      case measure => have hj1 := HJ1.out; simp [intOf]; omega
    · have hlt' : ¬ (j : Int) < L := by omega
      have e : D.take j = D := List.take_of_length_le (by have := HLL.out; omega)
      rw [e] at HH ⊢
      have h1 := HH.out
      have hpos : 0 < (imgB D).length := by rw [imgB_len]; have := len_isz D; omega
      have HCV : Hid (Below w.heap.size w wr) := h1.2
      have hcv := conv_own h1.1 hpos
      clear h1 e
      go_wp2
      go_ret
      exact ⟨rfl, HCV.out⟩
end Go.Proofs.YtlkkibiedlakfaaGreat.xj

namespace Go.Proofs.YtlkkibiedlakfaaGreat.xk
open Go.RowKit Go.PlainAid Go.Maps Go.Shelf
open Go.Proofs.YtlkkibiedlakfaaGreat.ca Go.Proofs.YtlkkibiedlakfaaGreat.cb Go.Proofs.YtlkkibiedlakfaaGreat.cp Go.Proofs.YtlkkibiedlakfaaGreat.kp Go.Proofs.YtlkkibiedlakfaaGreat.ka Go.Proofs.YtlkkibiedlakfaaGreat.ya Go.Proofs.YtlkkibiedlakfaaGreat.yb Go.Proofs.YtlkkibiedlakfaaGreat.yc Go.Proofs.YtlkkibiedlakfaaGreat.yd Go.Proofs.YtlkkibiedlakfaaGreat.ye Go.Proofs.YtlkkibiedlakfaaGreat.yf Go.Proofs.YtlkkibiedlakfaaGreat.yi Go.Proofs.YtlkkibiedlakfaaGreat.yk Go.Proofs.YtlkkibiedlakfaaGreat.yl Go.Proofs.YtlkkibiedlakfaaGreat.ym Go.Proofs.YtlkkibiedlakfaaGreat.yo Go.Proofs.YtlkkibiedlakfaaGreat.yp Go.Proofs.YtlkkibiedlakfaaGreat.yr Go.Proofs.YtlkkibiedlakfaaGreat.zg Go.Proofs.YtlkkibiedlakfaaGreat.xa Go.Proofs.YtlkkibiedlakfaaGreat.xb Go.Proofs.YtlkkibiedlakfaaGreat.xc
set_option linter.unusedVariables false
set_option linter.unusedSimpArgs false
theorem ds_in {B g : Nat} {dv wv vv : Value} {s : S} {w : World} (h : Ds B g dv wv vv s w) : ∀ j, xc.Fd g wv j → j < w.heap.size := by
  rintro j (rfl | hj)
  · exact h.row.lt
  · exact (h.wl.lt _ hj.symm).2
theorem rd_cells {B g p : Nat} {dv wv vv : Value} {s s' : S} {w W1 w2 : World} {o : Obj} (h : Ds B g dv wv vv s w) (r : Rd B g wv s' W1 w2) (hp : w.heap.size ≤ p) (ho : W1.heap[p]? = some o) : w2.heap[p]? = some o := by
  obtain ⟨dv2, wv2, vv2, h2, k2, n2⟩ := r
  rw [k2.block p (Array.getElem?_eq_some_iff.1 ho).1 (fun e => by have := ds_in h p e; omega)]
  exact ho
theorem dg : (82 : Nat) ≠ 66 := by decide
theorem rd_wrap {B g p : Nat} {dv wv vv : Value} {s s' : S} {w W1 w2 W : World} (ho : W1.heap[p]? = some (.cells Z8 66 (0, 0))) (h : Ds B g dv wv vv s w) (b1 : Below w.heap.size w W1) (r : Rd B g wv s' W1 w2) (k : Kp (fun q => q = p) w2 W) (hp : w.heap.size ≤ p) (hp2 : p < W1.heap.size) : Rd B g wv s' w W := by
  have ho2 := rd_cells h r hp ho
  obtain ⟨dv2, wv2, vv2, h2, k2, n2⟩ := r
  have hg : ¬ g = p := fun e => by have := h.row.lt; omega
  refine ⟨dv2, wv2, vv2, h2.keep k hg (fun j hj e => ?_) (fun j hj e => own_tag h2.dl ho2 dg (by rw [← e]; exact hj)) (fun j hj e => own_tag h2.vl ho2 dg (by rw [← e]; exact hj)), ⟨k.os.trans (k2.os.trans b1.os), k.tape.trans (k2.tape.trans b1.tape), k.output.trans (k2.output.trans b1.output), Nat.le_trans b1.size (Nat.le_trans k2.size k.size), fun j hj hn => ?_⟩, fun j hj => ?_⟩
  · rcases n2 j hj with e2 | e2
    · have := ds_in h j (.inr e2); omega
    · omega
  · have hs := b1.size
    have hs2 := k2.size
    rw [k.block j (by omega) (by omega), k2.block j (by omega) hn, b1.block j hj]
  · rcases n2 j hj with e | e
    · exact .inl e
    · exact .inr (Nat.le_trans b1.size e)
theorem getDb {B g : Nat} {dv wv vv : Value} {s : S} {w : World} (k : ByteArray) (h : Ds B g dv wv vv s w) : Calls Tryz.prog 69 #[.pointer (some ⟨g, 0, none⟩), .string k] w fun e w' => e = .returned (.tuple #[.string (getS s k).1, .int .i64 (getS s k).2]) ∧ Below w.heap.size w w' :=
  (getD k h).mono (by rintro e w' ⟨rfl, hw⟩; rw [hw]; exact ⟨rfl, Below.refl _ _⟩)
set_option maxRecDepth 20000 in
set_option maxHeartbeats 6400000 in
theorem td1 {B g : Nat} {dv wv vv : Value} {s : S} {w : World} (kind : Int) (k d : ByteArray) (n : Int) (h : Ds B g dv wv vv s w) (hk : k.size ≤ 140737488355328) (hd : d.size ≤ 140737488355328) (hn : n ≤ 9223372036854775807) (hl : s.dur.length + s.pend.length + 1 < 3518437208883) (ha : s.age < 4398046511104) (hi : isz s.dur ≤ 140737488355000) (hB : B ≤ w.heap.size) (hkind : kind = 1) :
    Calls Tryz.prog 27 #[.pointer (some ⟨g, 0, none⟩), .agg #[.int .i64 kind, .string k, .string d, .int .i64 n]] w fun e w' => ∃ (na : Option Addr) (nl nc : Nat), e = .returned (.agg #[.string (aT s kind k), .slice na nl nc, .int .i64 (doS s kind k d n).1, .int .i64 (aA s kind), .int .i64 (aB s kind), .int .i64 (aC s kind), .bool (aD s kind), .int .i64 (aG s kind)]) ∧ w'.ownsRow w.heap.size 9 1 (.slice na nl nc) (aN s kind k).length ((aN s kind k).map Value.string) ∧ Rd B g wv (doS s kind k d n).2 w w' := by
  subst hkind
  have HD : Hid (doS s 1 k d n = putS s k d) := by show _ = _; unfold doS; simp
  rw [HD.out]
  have HAT : Hid (aT s 1 k = ⟨#[]⟩) := by show _ = _; unfold aT; simp
  have HAN : Hid (aN s 1 k = []) := by show _ = _; unfold aN; simp
  have HAA : Hid (aA s 1 = 0) := by show _ = _; unfold aA; simp
  have HAB : Hid (aB s 1 = 0) := by show _ = _; unfold aB; simp
  have HAC : Hid (aC s 1 = 0) := by show _ = _; unfold aC; simp
  have HAD : Hid (aD s 1 = false) := by show _ = _; unfold aD; simp
  have HAG : Hid (aG s 1 = 0) := by show _ = _; unfold aG; simp
  rw [HAT.out, HAN.out, HAA.out, HAB.out, HAC.out, HAD.out, HAG.out]
  obtain ⟨W1, HW⟩ : ∃ W1, Hid (W1 = (w.alloc (.cells #[.int .i64 1, .string k, .string d, .int .i64 n] 34)).alloc (.cells Z8 66)) := ⟨_, rfl⟩
  have B1 : Hid (Below w.heap.size w W1) := by rw [HW.out]; exact ((Below.refl _ w).alloc (Nat.le_refl _) _).alloc (by simp) _
  have F1 : Hid (W1.heap[w.heap.size + 1]? = some (.cells Z8 66 (0, 0)) ∧ W1.heap.size = w.heap.size + 2) := by
    rw [HW.out]
    have h1 := (MapKept.heap_alloc (w.alloc (.cells #[.int .i64 1, .string k, .string d, .int .i64 n] 34)) (.cells Z8 66)).1
    have e : (w.alloc (.cells #[.int .i64 1, .string k, .string d, .int .i64 n] 34)).heap.size = w.heap.size + 1 := by simp
    rw [e] at h1
    exact ⟨h1, by simp⟩
  have H : Hid (Ds B g dv wv vv s w) := h
  have H1 : Hid (Ds B g dv wv vv s W1) := h.later B1.out
  have hB1 : B ≤ W1.heap.size := Nat.le_trans hB B1.out.size
  have RB : Hid (∀ w2, Below W1.heap.size W1 w2 → Rd B g wv s W1 w2) := fun w2 b2 => Rd.refl H1.out b2
  clear h
  have CC : Hid (Calls _ _ _ _ _) := xf.putD k d H1.out hB1 hl hd
  rw [HW.out] at CC RB
  go_enter Tryz.func27, Tryz.ntmps27
  go_upto_region 4 with (first | (go_at_call 44; refine CC.out.mono ?_; rintro _ w2 ⟨rfl, r2⟩; have R2 : Hid (Rd _ _ _ _ _ w2) := r2; clear r2) | go_in)
  have F2 : Hid (w2.heap[w.heap.size + 1]? = some (.cells Z8 66 (0, 0))) := rd_cells H.out R2.out (by omega) (by have := F1.out.1; rw [HW.out] at this; exact this)
  obtain ⟨d0, d1, d2, d3, d4, d5, d6, d7⟩ := eight F2.out
  obtain ⟨g0, g1, g2, g3, g4, g5, g6, g7⟩ := froz8 F2.out
  have FIN : Hid (∀ W', W' = _ → _) := put8 w2 (w.heap.size + 1) _ _ _ _ _ _ _ _ (.string ⟨#[]⟩) (.slice none 0 0) (.int .i64 (putS s k d).1) (.int .i64 0) (.int .i64 0) (.int .i64 0) (.bool false) (.int .i64 0) _ F2.out
  clear F2
  go_wp2_with (fail)
  obtain ⟨G, hk2⟩ := FIN.out _ rfl
  obtain ⟨e0, e1, e2, e3, e4, e5, e6, e7⟩ := eight G
  refine bodyPost_ret (by simp [results, Tryz.results27, go_sem, e0, e1, e2, e3, e4, e5, e6, e7]; try rfl) rfl ?_
  exact ⟨_, _, _, rfl, World.ownsRow_nil _ _ _ _, rd_wrap (by have := F1.out.1; rw [HW.out] at this; exact this) H.out (by have := B1.out; rw [HW.out] at this; exact this) R2.out hk2 (by omega) (by have := F1.out.2; rw [HW.out] at this; omega)⟩
set_option maxRecDepth 20000 in
set_option maxHeartbeats 6400000 in
theorem td2 {B g : Nat} {dv wv vv : Value} {s : S} {w : World} (kind : Int) (k d : ByteArray) (n : Int) (h : Ds B g dv wv vv s w) (hk : k.size ≤ 140737488355328) (hd : d.size ≤ 140737488355328) (hn : n ≤ 9223372036854775807) (hl : s.dur.length + s.pend.length + 1 < 3518437208883) (ha : s.age < 4398046511104) (hi : isz s.dur ≤ 140737488355000) (hB : B ≤ w.heap.size) (hkind : kind = 2) :
    Calls Tryz.prog 27 #[.pointer (some ⟨g, 0, none⟩), .agg #[.int .i64 kind, .string k, .string d, .int .i64 n]] w fun e w' => ∃ (na : Option Addr) (nl nc : Nat), e = .returned (.agg #[.string (aT s kind k), .slice na nl nc, .int .i64 (doS s kind k d n).1, .int .i64 (aA s kind), .int .i64 (aB s kind), .int .i64 (aC s kind), .bool (aD s kind), .int .i64 (aG s kind)]) ∧ w'.ownsRow w.heap.size 9 1 (.slice na nl nc) (aN s kind k).length ((aN s kind k).map Value.string) ∧ Rd B g wv (doS s kind k d n).2 w w' := by
  subst hkind
  have HD : Hid (doS s 2 k d n = cutS s k) := by show _ = _; unfold doS; simp
  rw [HD.out]
  have HAT : Hid (aT s 2 k = ⟨#[]⟩) := by show _ = _; unfold aT; simp
  have HAN : Hid (aN s 2 k = []) := by show _ = _; unfold aN; simp
  have HAA : Hid (aA s 2 = 0) := by show _ = _; unfold aA; simp
  have HAB : Hid (aB s 2 = 0) := by show _ = _; unfold aB; simp
  have HAC : Hid (aC s 2 = 0) := by show _ = _; unfold aC; simp
  have HAD : Hid (aD s 2 = false) := by show _ = _; unfold aD; simp
  have HAG : Hid (aG s 2 = 0) := by show _ = _; unfold aG; simp
  rw [HAT.out, HAN.out, HAA.out, HAB.out, HAC.out, HAD.out, HAG.out]
  obtain ⟨W1, HW⟩ : ∃ W1, Hid (W1 = (w.alloc (.cells #[.int .i64 2, .string k, .string d, .int .i64 n] 34)).alloc (.cells Z8 66)) := ⟨_, rfl⟩
  have B1 : Hid (Below w.heap.size w W1) := by rw [HW.out]; exact ((Below.refl _ w).alloc (Nat.le_refl _) _).alloc (by simp) _
  have F1 : Hid (W1.heap[w.heap.size + 1]? = some (.cells Z8 66 (0, 0)) ∧ W1.heap.size = w.heap.size + 2) := by
    rw [HW.out]
    have h1 := (MapKept.heap_alloc (w.alloc (.cells #[.int .i64 2, .string k, .string d, .int .i64 n] 34)) (.cells Z8 66)).1
    have e : (w.alloc (.cells #[.int .i64 2, .string k, .string d, .int .i64 n] 34)).heap.size = w.heap.size + 1 := by simp
    rw [e] at h1
    exact ⟨h1, by simp⟩
  have H : Hid (Ds B g dv wv vv s w) := h
  have H1 : Hid (Ds B g dv wv vv s W1) := h.later B1.out
  have hB1 : B ≤ W1.heap.size := Nat.le_trans hB B1.out.size
  have RB : Hid (∀ w2, Below W1.heap.size W1 w2 → Rd B g wv s W1 w2) := fun w2 b2 => Rd.refl H1.out b2
  clear h
  have CC : Hid (Calls _ _ _ _ _) := xf.cutD k H1.out hB1 hl
  rw [HW.out] at CC RB
  go_enter Tryz.func27, Tryz.ntmps27
  go_upto_region 7 with (first | (go_at_call 68; refine CC.out.mono ?_; rintro _ w2 ⟨rfl, r2⟩; have R2 : Hid (Rd _ _ _ _ _ w2) := r2; clear r2) | go_in)
  have F2 : Hid (w2.heap[w.heap.size + 1]? = some (.cells Z8 66 (0, 0))) := rd_cells H.out R2.out (by omega) (by have := F1.out.1; rw [HW.out] at this; exact this)
  obtain ⟨d0, d1, d2, d3, d4, d5, d6, d7⟩ := eight F2.out
  obtain ⟨g0, g1, g2, g3, g4, g5, g6, g7⟩ := froz8 F2.out
  have FIN : Hid (∀ W', W' = _ → _) := put8 w2 (w.heap.size + 1) _ _ _ _ _ _ _ _ (.string ⟨#[]⟩) (.slice none 0 0) (.int .i64 (cutS s k).1) (.int .i64 0) (.int .i64 0) (.int .i64 0) (.bool false) (.int .i64 0) _ F2.out
  clear F2
  go_wp2_with (fail)
  obtain ⟨G, hk2⟩ := FIN.out _ rfl
  obtain ⟨e0, e1, e2, e3, e4, e5, e6, e7⟩ := eight G
  refine bodyPost_ret (by simp [results, Tryz.results27, go_sem, e0, e1, e2, e3, e4, e5, e6, e7]; try rfl) rfl ?_
  exact ⟨_, _, _, rfl, World.ownsRow_nil _ _ _ _, rd_wrap (by have := F1.out.1; rw [HW.out] at this; exact this) H.out (by have := B1.out; rw [HW.out] at this; exact this) R2.out hk2 (by omega) (by have := F1.out.2; rw [HW.out] at this; omega)⟩
set_option maxRecDepth 20000 in
set_option maxHeartbeats 6400000 in
theorem td3 {B g : Nat} {dv wv vv : Value} {s : S} {w : World} (kind : Int) (k d : ByteArray) (n : Int) (h : Ds B g dv wv vv s w) (hk : k.size ≤ 140737488355328) (hd : d.size ≤ 140737488355328) (hn : n ≤ 9223372036854775807) (hl : s.dur.length + s.pend.length + 1 < 3518437208883) (ha : s.age < 4398046511104) (hi : isz s.dur ≤ 140737488355000) (hB : B ≤ w.heap.size) (hkind : kind = 3) :
    Calls Tryz.prog 27 #[.pointer (some ⟨g, 0, none⟩), .agg #[.int .i64 kind, .string k, .string d, .int .i64 n]] w fun e w' => ∃ (na : Option Addr) (nl nc : Nat), e = .returned (.agg #[.string (aT s kind k), .slice na nl nc, .int .i64 (doS s kind k d n).1, .int .i64 (aA s kind), .int .i64 (aB s kind), .int .i64 (aC s kind), .bool (aD s kind), .int .i64 (aG s kind)]) ∧ w'.ownsRow w.heap.size 9 1 (.slice na nl nc) (aN s kind k).length ((aN s kind k).map Value.string) ∧ Rd B g wv (doS s kind k d n).2 w w' := by
  subst hkind
  have HD : Hid (doS s 3 k d n = syncS s) := by show _ = _; unfold doS; simp
  rw [HD.out]
  have HAT : Hid (aT s 3 k = ⟨#[]⟩) := by show _ = _; unfold aT; simp
  have HAN : Hid (aN s 3 k = []) := by show _ = _; unfold aN; simp
  have HAA : Hid (aA s 3 = 0) := by show _ = _; unfold aA; simp
  have HAB : Hid (aB s 3 = 0) := by show _ = _; unfold aB; simp
  have HAC : Hid (aC s 3 = 0) := by show _ = _; unfold aC; simp
  have HAD : Hid (aD s 3 = false) := by show _ = _; unfold aD; simp
  have HAG : Hid (aG s 3 = 0) := by show _ = _; unfold aG; simp
  rw [HAT.out, HAN.out, HAA.out, HAB.out, HAC.out, HAD.out, HAG.out]
  obtain ⟨W1, HW⟩ : ∃ W1, Hid (W1 = (w.alloc (.cells #[.int .i64 3, .string k, .string d, .int .i64 n] 34)).alloc (.cells Z8 66)) := ⟨_, rfl⟩
  have B1 : Hid (Below w.heap.size w W1) := by rw [HW.out]; exact ((Below.refl _ w).alloc (Nat.le_refl _) _).alloc (by simp) _
  have F1 : Hid (W1.heap[w.heap.size + 1]? = some (.cells Z8 66 (0, 0)) ∧ W1.heap.size = w.heap.size + 2) := by
    rw [HW.out]
    have h1 := (MapKept.heap_alloc (w.alloc (.cells #[.int .i64 3, .string k, .string d, .int .i64 n] 34)) (.cells Z8 66)).1
    have e : (w.alloc (.cells #[.int .i64 3, .string k, .string d, .int .i64 n] 34)).heap.size = w.heap.size + 1 := by simp
    rw [e] at h1
    exact ⟨h1, by simp⟩
  have H : Hid (Ds B g dv wv vv s w) := h
  have H1 : Hid (Ds B g dv wv vv s W1) := h.later B1.out
  have hB1 : B ≤ W1.heap.size := Nat.le_trans hB B1.out.size
  have RB : Hid (∀ w2, Below W1.heap.size W1 w2 → Rd B g wv s W1 w2) := fun w2 b2 => Rd.refl H1.out b2
  clear h
  have CC : Hid (Calls _ _ _ _ _) := xd.syncD H1.out
  rw [HW.out] at CC RB
  go_enter Tryz.func27, Tryz.ntmps27
  go_upto_region 10 with (first | (go_at_call 48; refine CC.out.mono ?_; rintro _ w2 ⟨rfl, r2⟩; have R2 : Hid (Rd _ _ _ _ _ w2) := r2; clear r2) | go_in)
  have F2 : Hid (w2.heap[w.heap.size + 1]? = some (.cells Z8 66 (0, 0))) := rd_cells H.out R2.out (by omega) (by have := F1.out.1; rw [HW.out] at this; exact this)
  obtain ⟨d0, d1, d2, d3, d4, d5, d6, d7⟩ := eight F2.out
  obtain ⟨g0, g1, g2, g3, g4, g5, g6, g7⟩ := froz8 F2.out
  have FIN : Hid (∀ W', W' = _ → _) := put8 w2 (w.heap.size + 1) _ _ _ _ _ _ _ _ (.string ⟨#[]⟩) (.slice none 0 0) (.int .i64 (syncS s).1) (.int .i64 0) (.int .i64 0) (.int .i64 0) (.bool false) (.int .i64 0) _ F2.out
  clear F2
  go_wp2_with (fail)
  obtain ⟨G, hk2⟩ := FIN.out _ rfl
  obtain ⟨e0, e1, e2, e3, e4, e5, e6, e7⟩ := eight G
  refine bodyPost_ret (by simp [results, Tryz.results27, go_sem, e0, e1, e2, e3, e4, e5, e6, e7]; try rfl) rfl ?_
  exact ⟨_, _, _, rfl, World.ownsRow_nil _ _ _ _, rd_wrap (by have := F1.out.1; rw [HW.out] at this; exact this) H.out (by have := B1.out; rw [HW.out] at this; exact this) R2.out hk2 (by omega) (by have := F1.out.2; rw [HW.out] at this; omega)⟩
set_option maxRecDepth 20000 in
set_option maxHeartbeats 6400000 in
theorem td4 {B g : Nat} {dv wv vv : Value} {s : S} {w : World} (kind : Int) (k d : ByteArray) (n : Int) (h : Ds B g dv wv vv s w) (hk : k.size ≤ 140737488355328) (hd : d.size ≤ 140737488355328) (hn : n ≤ 9223372036854775807) (hl : s.dur.length + s.pend.length + 1 < 3518437208883) (ha : s.age < 4398046511104) (hi : isz s.dur ≤ 140737488355000) (hB : B ≤ w.heap.size) (hkind : kind = 4) :
    Calls Tryz.prog 27 #[.pointer (some ⟨g, 0, none⟩), .agg #[.int .i64 kind, .string k, .string d, .int .i64 n]] w fun e w' => ∃ (na : Option Addr) (nl nc : Nat), e = .returned (.agg #[.string (aT s kind k), .slice na nl nc, .int .i64 (doS s kind k d n).1, .int .i64 (aA s kind), .int .i64 (aB s kind), .int .i64 (aC s kind), .bool (aD s kind), .int .i64 (aG s kind)]) ∧ w'.ownsRow w.heap.size 9 1 (.slice na nl nc) (aN s kind k).length ((aN s kind k).map Value.string) ∧ Rd B g wv (doS s kind k d n).2 w w' := by
  subst hkind
  have HD : Hid (doS s 4 k d n = (0, armS s n)) := by show _ = _; unfold doS; simp
  rw [HD.out]
  have HAT : Hid (aT s 4 k = ⟨#[]⟩) := by show _ = _; unfold aT; simp
  have HAN : Hid (aN s 4 k = []) := by show _ = _; unfold aN; simp
  have HAA : Hid (aA s 4 = 0) := by show _ = _; unfold aA; simp
  have HAB : Hid (aB s 4 = 0) := by show _ = _; unfold aB; simp
  have HAC : Hid (aC s 4 = 0) := by show _ = _; unfold aC; simp
  have HAD : Hid (aD s 4 = false) := by show _ = _; unfold aD; simp
  have HAG : Hid (aG s 4 = 0) := by show _ = _; unfold aG; simp
  rw [HAT.out, HAN.out, HAA.out, HAB.out, HAC.out, HAD.out, HAG.out]
  obtain ⟨W1, HW⟩ : ∃ W1, Hid (W1 = (w.alloc (.cells #[.int .i64 4, .string k, .string d, .int .i64 n] 34)).alloc (.cells Z8 66)) := ⟨_, rfl⟩
  have B1 : Hid (Below w.heap.size w W1) := by rw [HW.out]; exact ((Below.refl _ w).alloc (Nat.le_refl _) _).alloc (by simp) _
  have F1 : Hid (W1.heap[w.heap.size + 1]? = some (.cells Z8 66 (0, 0)) ∧ W1.heap.size = w.heap.size + 2) := by
    rw [HW.out]
    have h1 := (MapKept.heap_alloc (w.alloc (.cells #[.int .i64 4, .string k, .string d, .int .i64 n] 34)) (.cells Z8 66)).1
    have e : (w.alloc (.cells #[.int .i64 4, .string k, .string d, .int .i64 n] 34)).heap.size = w.heap.size + 1 := by simp
    rw [e] at h1
    exact ⟨h1, by simp⟩
  have H : Hid (Ds B g dv wv vv s w) := h
  have H1 : Hid (Ds B g dv wv vv s W1) := h.later B1.out
  have hB1 : B ≤ W1.heap.size := Nat.le_trans hB B1.out.size
  have RB : Hid (∀ w2, Below W1.heap.size W1 w2 → Rd B g wv s W1 w2) := fun w2 b2 => Rd.refl H1.out b2
  clear h
  have CC : Hid (Calls _ _ _ _ _) := xd.armD n H1.out hn
  rw [HW.out] at CC RB
  go_enter Tryz.func27, Tryz.ntmps27
  go_upto_region 24 with (first | (go_at_call 50; refine CC.out.mono ?_; rintro _ w2 ⟨rfl, r2⟩; have R2 : Hid (Rd _ _ _ _ _ w2) := r2; clear r2) | go_in)
  have F2 : Hid (w2.heap[w.heap.size + 1]? = some (.cells Z8 66 (0, 0))) := rd_cells H.out R2.out (by omega) (by have := F1.out.1; rw [HW.out] at this; exact this)
  obtain ⟨d0, d1, d2, d3, d4, d5, d6, d7⟩ := eight F2.out
  obtain ⟨g0, g1, g2, g3, g4, g5, g6, g7⟩ := froz8 F2.out
  have FIN : Hid (∀ W', W' = _ → _) := put8 w2 (w.heap.size + 1) _ _ _ _ _ _ _ _ (.string ⟨#[]⟩) (.slice none 0 0) (.int .i64 0) (.int .i64 0) (.int .i64 0) (.int .i64 0) (.bool false) (.int .i64 0) _ F2.out
  clear F2
  go_wp2_with (fail)
  obtain ⟨G, hk2⟩ := FIN.out _ rfl
  obtain ⟨e0, e1, e2, e3, e4, e5, e6, e7⟩ := eight G
  refine bodyPost_ret (by simp [results, Tryz.results27, go_sem, e0, e1, e2, e3, e4, e5, e6, e7]; try rfl) rfl ?_
  exact ⟨_, _, _, rfl, World.ownsRow_nil _ _ _ _, rd_wrap (by have := F1.out.1; rw [HW.out] at this; exact this) H.out (by have := B1.out; rw [HW.out] at this; exact this) R2.out hk2 (by omega) (by have := F1.out.2; rw [HW.out] at this; omega)⟩
set_option maxRecDepth 20000 in
set_option maxHeartbeats 6400000 in
theorem td5 {B g : Nat} {dv wv vv : Value} {s : S} {w : World} (kind : Int) (k d : ByteArray) (n : Int) (h : Ds B g dv wv vv s w) (hk : k.size ≤ 140737488355328) (hd : d.size ≤ 140737488355328) (hn : n ≤ 9223372036854775807) (hl : s.dur.length + s.pend.length + 1 < 3518437208883) (ha : s.age < 4398046511104) (hi : isz s.dur ≤ 140737488355000) (hB : B ≤ w.heap.size) (hkind : kind = 5) :
    Calls Tryz.prog 27 #[.pointer (some ⟨g, 0, none⟩), .agg #[.int .i64 kind, .string k, .string d, .int .i64 n]] w fun e w' => ∃ (na : Option Addr) (nl nc : Nat), e = .returned (.agg #[.string (aT s kind k), .slice na nl nc, .int .i64 (doS s kind k d n).1, .int .i64 (aA s kind), .int .i64 (aB s kind), .int .i64 (aC s kind), .bool (aD s kind), .int .i64 (aG s kind)]) ∧ w'.ownsRow w.heap.size 9 1 (.slice na nl nc) (aN s kind k).length ((aN s kind k).map Value.string) ∧ Rd B g wv (doS s kind k d n).2 w w' := by
  subst hkind
  have HD : Hid (doS s 5 k d n = (0, crashS s d)) := by show _ = _; unfold doS; simp
  rw [HD.out]
  have HAT : Hid (aT s 5 k = ⟨#[]⟩) := by show _ = _; unfold aT; simp
  have HAN : Hid (aN s 5 k = []) := by show _ = _; unfold aN; simp
  have HAA : Hid (aA s 5 = 0) := by show _ = _; unfold aA; simp
  have HAB : Hid (aB s 5 = 0) := by show _ = _; unfold aB; simp
  have HAC : Hid (aC s 5 = 0) := by show _ = _; unfold aC; simp
  have HAD : Hid (aD s 5 = false) := by show _ = _; unfold aD; simp
  have HAG : Hid (aG s 5 = 0) := by show _ = _; unfold aG; simp
  rw [HAT.out, HAN.out, HAA.out, HAB.out, HAC.out, HAD.out, HAG.out]
  obtain ⟨W1, HW⟩ : ∃ W1, Hid (W1 = (w.alloc (.cells #[.int .i64 5, .string k, .string d, .int .i64 n] 34)).alloc (.cells Z8 66)) := ⟨_, rfl⟩
  have B1 : Hid (Below w.heap.size w W1) := by rw [HW.out]; exact ((Below.refl _ w).alloc (Nat.le_refl _) _).alloc (by simp) _
  have F1 : Hid (W1.heap[w.heap.size + 1]? = some (.cells Z8 66 (0, 0)) ∧ W1.heap.size = w.heap.size + 2) := by
    rw [HW.out]
    have h1 := (MapKept.heap_alloc (w.alloc (.cells #[.int .i64 5, .string k, .string d, .int .i64 n] 34)) (.cells Z8 66)).1
    have e : (w.alloc (.cells #[.int .i64 5, .string k, .string d, .int .i64 n] 34)).heap.size = w.heap.size + 1 := by simp
    rw [e] at h1
    exact ⟨h1, by simp⟩
  have H : Hid (Ds B g dv wv vv s w) := h
  have H1 : Hid (Ds B g dv wv vv s W1) := h.later B1.out
  have hB1 : B ≤ W1.heap.size := Nat.le_trans hB B1.out.size
  have RB : Hid (∀ w2, Below W1.heap.size W1 w2 → Rd B g wv s W1 w2) := fun w2 b2 => Rd.refl H1.out b2
  clear h
  have CC : Hid (Calls _ _ _ _ _) := xg.crashD d H1.out hB1 hd ha
  rw [HW.out] at CC RB
  go_enter Tryz.func27, Tryz.ntmps27
  go_upto_region 24 with (first | (go_at_call 16; refine CC.out.mono ?_; rintro _ w2 ⟨rfl, r2⟩; have R2 : Hid (Rd _ _ _ _ _ w2) := r2; clear r2) | go_in)
  have F2 : Hid (w2.heap[w.heap.size + 1]? = some (.cells Z8 66 (0, 0))) := rd_cells H.out R2.out (by omega) (by have := F1.out.1; rw [HW.out] at this; exact this)
  obtain ⟨d0, d1, d2, d3, d4, d5, d6, d7⟩ := eight F2.out
  obtain ⟨g0, g1, g2, g3, g4, g5, g6, g7⟩ := froz8 F2.out
  have FIN : Hid (∀ W', W' = _ → _) := put8 w2 (w.heap.size + 1) _ _ _ _ _ _ _ _ (.string ⟨#[]⟩) (.slice none 0 0) (.int .i64 0) (.int .i64 0) (.int .i64 0) (.int .i64 0) (.bool false) (.int .i64 0) _ F2.out
  clear F2
  go_wp2_with (fail)
  obtain ⟨G, hk2⟩ := FIN.out _ rfl
  obtain ⟨e0, e1, e2, e3, e4, e5, e6, e7⟩ := eight G
  refine bodyPost_ret (by simp [results, Tryz.results27, go_sem, e0, e1, e2, e3, e4, e5, e6, e7]; try rfl) rfl ?_
  exact ⟨_, _, _, rfl, World.ownsRow_nil _ _ _ _, rd_wrap (by have := F1.out.1; rw [HW.out] at this; exact this) H.out (by have := B1.out; rw [HW.out] at this; exact this) R2.out hk2 (by omega) (by have := F1.out.2; rw [HW.out] at this; omega)⟩
set_option maxRecDepth 20000 in
set_option maxHeartbeats 6400000 in
theorem td6 {B g : Nat} {dv wv vv : Value} {s : S} {w : World} (kind : Int) (k d : ByteArray) (n : Int) (h : Ds B g dv wv vv s w) (hk : k.size ≤ 140737488355328) (hd : d.size ≤ 140737488355328) (hn : n ≤ 9223372036854775807) (hl : s.dur.length + s.pend.length + 1 < 3518437208883) (ha : s.age < 4398046511104) (hi : isz s.dur ≤ 140737488355000) (hB : B ≤ w.heap.size) (hkind : kind = 6) :
    Calls Tryz.prog 27 #[.pointer (some ⟨g, 0, none⟩), .agg #[.int .i64 kind, .string k, .string d, .int .i64 n]] w fun e w' => ∃ (na : Option Addr) (nl nc : Nat), e = .returned (.agg #[.string (aT s kind k), .slice na nl nc, .int .i64 (doS s kind k d n).1, .int .i64 (aA s kind), .int .i64 (aB s kind), .int .i64 (aC s kind), .bool (aD s kind), .int .i64 (aG s kind)]) ∧ w'.ownsRow w.heap.size 9 1 (.slice na nl nc) (aN s kind k).length ((aN s kind k).map Value.string) ∧ Rd B g wv (doS s kind k d n).2 w w' := by
  subst hkind
  have HD : Hid (doS s 6 k d n = ((getS s k).2, s)) := by show _ = _; unfold doS; simp
  rw [HD.out]
  have HAT : Hid (aT s 6 k = (getS s k).1) := by show _ = _; unfold aT; simp
  have HAN : Hid (aN s 6 k = []) := by show _ = _; unfold aN; simp
  have HAA : Hid (aA s 6 = 0) := by show _ = _; unfold aA; simp
  have HAB : Hid (aB s 6 = 0) := by show _ = _; unfold aB; simp
  have HAC : Hid (aC s 6 = 0) := by show _ = _; unfold aC; simp
  have HAD : Hid (aD s 6 = false) := by show _ = _; unfold aD; simp
  have HAG : Hid (aG s 6 = 0) := by show _ = _; unfold aG; simp
  rw [HAT.out, HAN.out, HAA.out, HAB.out, HAC.out, HAD.out, HAG.out]
  obtain ⟨W1, HW⟩ : ∃ W1, Hid (W1 = (w.alloc (.cells #[.int .i64 6, .string k, .string d, .int .i64 n] 34)).alloc (.cells Z8 66)) := ⟨_, rfl⟩
  have B1 : Hid (Below w.heap.size w W1) := by rw [HW.out]; exact ((Below.refl _ w).alloc (Nat.le_refl _) _).alloc (by simp) _
  have F1 : Hid (W1.heap[w.heap.size + 1]? = some (.cells Z8 66 (0, 0)) ∧ W1.heap.size = w.heap.size + 2) := by
    rw [HW.out]
    have h1 := (MapKept.heap_alloc (w.alloc (.cells #[.int .i64 6, .string k, .string d, .int .i64 n] 34)) (.cells Z8 66)).1
    have e : (w.alloc (.cells #[.int .i64 6, .string k, .string d, .int .i64 n] 34)).heap.size = w.heap.size + 1 := by simp
    rw [e] at h1
    exact ⟨h1, by simp⟩
  have H : Hid (Ds B g dv wv vv s w) := h
  have H1 : Hid (Ds B g dv wv vv s W1) := h.later B1.out
  have hB1 : B ≤ W1.heap.size := Nat.le_trans hB B1.out.size
  have RB : Hid (∀ w2, Below W1.heap.size W1 w2 → Rd B g wv s W1 w2) := fun w2 b2 => Rd.refl H1.out b2
  clear h
  have CC : Hid (Calls _ _ _ _ _) := getDb k H1.out
  rw [HW.out] at CC RB
  go_enter Tryz.func27, Tryz.ntmps27
  go_upto_region 17 with (first | (go_at_call 69; refine CC.out.mono ?_; rintro _ w2 ⟨rfl, b2⟩; have R2 : Hid (Rd B g wv s _ w2) := RB.out w2 b2; clear b2) | go_in)
  have F2 : Hid (w2.heap[w.heap.size + 1]? = some (.cells Z8 66 (0, 0))) := rd_cells H.out R2.out (by omega) (by have := F1.out.1; rw [HW.out] at this; exact this)
  obtain ⟨d0, d1, d2, d3, d4, d5, d6, d7⟩ := eight F2.out
  obtain ⟨g0, g1, g2, g3, g4, g5, g6, g7⟩ := froz8 F2.out
  have FIN : Hid (∀ W', W' = _ → _) := put8 w2 (w.heap.size + 1) _ _ _ _ _ _ _ _ (.string (getS s k).1) (.slice none 0 0) (.int .i64 (getS s k).2) (.int .i64 0) (.int .i64 0) (.int .i64 0) (.bool false) (.int .i64 0) _ F2.out
  clear F2
  go_wp2_with (fail)
  obtain ⟨G, hk2⟩ := FIN.out _ rfl
  obtain ⟨e0, e1, e2, e3, e4, e5, e6, e7⟩ := eight G
  refine bodyPost_ret (by simp [results, Tryz.results27, go_sem, e0, e1, e2, e3, e4, e5, e6, e7]; try rfl) rfl ?_
  exact ⟨_, _, _, rfl, World.ownsRow_nil _ _ _ _, rd_wrap (by have := F1.out.1; rw [HW.out] at this; exact this) H.out (by have := B1.out; rw [HW.out] at this; exact this) R2.out hk2 (by omega) (by have := F1.out.2; rw [HW.out] at this; omega)⟩
set_option maxRecDepth 20000 in
set_option maxHeartbeats 6400000 in
theorem td7 {B g : Nat} {dv wv vv : Value} {s : S} {w : World} (kind : Int) (k d : ByteArray) (n : Int) (h : Ds B g dv wv vv s w) (hk : k.size ≤ 140737488355328) (hd : d.size ≤ 140737488355328) (hn : n ≤ 9223372036854775807) (hl : s.dur.length + s.pend.length + 1 < 3518437208883) (ha : s.age < 4398046511104) (hi : isz s.dur ≤ 140737488355000) (hB : B ≤ w.heap.size) (hkind : kind = 7) :
    Calls Tryz.prog 27 #[.pointer (some ⟨g, 0, none⟩), .agg #[.int .i64 kind, .string k, .string d, .int .i64 n]] w fun e w' => ∃ (na : Option Addr) (nl nc : Nat), e = .returned (.agg #[.string (aT s kind k), .slice na nl nc, .int .i64 (doS s kind k d n).1, .int .i64 (aA s kind), .int .i64 (aB s kind), .int .i64 (aC s kind), .bool (aD s kind), .int .i64 (aG s kind)]) ∧ w'.ownsRow w.heap.size 9 1 (.slice na nl nc) (aN s kind k).length ((aN s kind k).map Value.string) ∧ Rd B g wv (doS s kind k d n).2 w w' := by
  subst hkind
  have HD : Hid (doS s 7 k d n = (0, s)) := by show _ = _; unfold doS; simp
  rw [HD.out]
  have HAT : Hid (aT s 7 k = ⟨#[]⟩) := by show _ = _; unfold aT; simp
  have HAN : Hid (aN s 7 k = keysS s k) := by show _ = _; unfold aN; simp
  have HAA : Hid (aA s 7 = 0) := by show _ = _; unfold aA; simp
  have HAB : Hid (aB s 7 = 0) := by show _ = _; unfold aB; simp
  have HAC : Hid (aC s 7 = 0) := by show _ = _; unfold aC; simp
  have HAD : Hid (aD s 7 = false) := by show _ = _; unfold aD; simp
  have HAG : Hid (aG s 7 = 0) := by show _ = _; unfold aG; simp
  rw [HAT.out, HAN.out, HAA.out, HAB.out, HAC.out, HAD.out, HAG.out]
  obtain ⟨W1, HW⟩ : ∃ W1, Hid (W1 = (w.alloc (.cells #[.int .i64 7, .string k, .string d, .int .i64 n] 34)).alloc (.cells Z8 66)) := ⟨_, rfl⟩
  have B1 : Hid (Below w.heap.size w W1) := by rw [HW.out]; exact ((Below.refl _ w).alloc (Nat.le_refl _) _).alloc (by simp) _
  have F1 : Hid (W1.heap[w.heap.size + 1]? = some (.cells Z8 66 (0, 0)) ∧ W1.heap.size = w.heap.size + 2) := by
    rw [HW.out]
    have h1 := (MapKept.heap_alloc (w.alloc (.cells #[.int .i64 7, .string k, .string d, .int .i64 n] 34)) (.cells Z8 66)).1
    have e : (w.alloc (.cells #[.int .i64 7, .string k, .string d, .int .i64 n] 34)).heap.size = w.heap.size + 1 := by simp
    rw [e] at h1
    exact ⟨h1, by simp⟩
  have H : Hid (Ds B g dv wv vv s w) := h
  have H1 : Hid (Ds B g dv wv vv s W1) := h.later B1.out
  have hB1 : B ≤ W1.heap.size := Nat.le_trans hB B1.out.size
  have RB : Hid (∀ w2, Below W1.heap.size W1 w2 → Rd B g wv s W1 w2) := fun w2 b2 => Rd.refl H1.out b2
  clear h
  have CC : Hid (Calls _ _ _ _ _) := xh.keysD k H1.out
  rw [HW.out] at CC RB
  go_enter Tryz.func27, Tryz.ntmps27
  go_wp2_with (first | (go_at_call 11; refine CC.out.mono ?_; rintro _ w2 ⟨v, rfl, o2, b2⟩; obtain ⟨va, vc, hv⟩ := own_formS o2; subst hv; have O2 : Hid (World.ownsRow _ _ _ _ _ _ _) := o2; clear o2; have R2 : Hid (Rd B g wv s _ w2) := RB.out w2 b2; clear b2; have F2 : Hid (w2.heap[w.heap.size + 1]? = some (.cells Z8 66 (0, 0))) := rd_cells H.out R2.out (by omega) (by have := F1.out.1; rw [HW.out] at this; exact this); obtain ⟨d0, d1, d2, d3, d4, d5, d6, d7⟩ := eight F2.out; obtain ⟨g0, g1, g2, g3, g4, g5, g6, g7⟩ := froz8 F2.out; have FIN : Hid (∀ W_, W_ = _ → _) := put8 w2 (w.heap.size + 1) _ _ _ _ _ _ _ _ (.string ⟨#[]⟩) (.slice va (keysS s k).length vc) (.int .i64 0) (.int .i64 0) (.int .i64 0) (.int .i64 0) (.bool false) (.int .i64 0) _ F2.out; clear F2) | go_in)
  obtain ⟨G, hk2⟩ := FIN.out _ rfl
  obtain ⟨e0, e1, e2, e3, e4, e5, e6, e7⟩ := eight G
  refine bodyPost_ret (by simp [results, Tryz.results27, go_sem, e0, e1, e2, e3, e4, e5, e6, e7]; try rfl) rfl ?_
  exact ⟨_, _, _, rfl, own_low (own_kp O2.out hk2 (fun j hj e => by have := (O2.out.lt _ hj.symm).1; simp at this; omega)) (by simp; omega), rd_wrap (by have := F1.out.1; rw [HW.out] at this; exact this) H.out (by have := B1.out; rw [HW.out] at this; exact this) R2.out hk2 (by omega) (by have := F1.out.2; rw [HW.out] at this; omega)⟩
set_option maxRecDepth 20000 in
set_option maxHeartbeats 6400000 in
theorem td8 {B g : Nat} {dv wv vv : Value} {s : S} {w : World} (kind : Int) (k d : ByteArray) (n : Int) (h : Ds B g dv wv vv s w) (hk : k.size ≤ 140737488355328) (hd : d.size ≤ 140737488355328) (hn : n ≤ 9223372036854775807) (hl : s.dur.length + s.pend.length + 1 < 3518437208883) (ha : s.age < 4398046511104) (hi : isz s.dur ≤ 140737488355000) (hB : B ≤ w.heap.size) (hkind : kind = 8) :
    Calls Tryz.prog 27 #[.pointer (some ⟨g, 0, none⟩), .agg #[.int .i64 kind, .string k, .string d, .int .i64 n]] w fun e w' => ∃ (na : Option Addr) (nl nc : Nat), e = .returned (.agg #[.string (aT s kind k), .slice na nl nc, .int .i64 (doS s kind k d n).1, .int .i64 (aA s kind), .int .i64 (aB s kind), .int .i64 (aC s kind), .bool (aD s kind), .int .i64 (aG s kind)]) ∧ w'.ownsRow w.heap.size 9 1 (.slice na nl nc) (aN s kind k).length ((aN s kind k).map Value.string) ∧ Rd B g wv (doS s kind k d n).2 w w' := by
  subst hkind
  have HD : Hid (doS s 8 k d n = (0, s)) := by show _ = _; unfold doS; simp
  rw [HD.out]
  have HAT : Hid (aT s 8 k = imageT s.dur) := by show _ = _; unfold aT; simp
  have HAN : Hid (aN s 8 k = []) := by show _ = _; unfold aN; simp
  have HAA : Hid (aA s 8 = 0) := by show _ = _; unfold aA; simp
  have HAB : Hid (aB s 8 = 0) := by show _ = _; unfold aB; simp
  have HAC : Hid (aC s 8 = 0) := by show _ = _; unfold aC; simp
  have HAD : Hid (aD s 8 = false) := by show _ = _; unfold aD; simp
  have HAG : Hid (aG s 8 = 0) := by show _ = _; unfold aG; simp
  rw [HAT.out, HAN.out, HAA.out, HAB.out, HAC.out, HAD.out, HAG.out]
  obtain ⟨W1, HW⟩ : ∃ W1, Hid (W1 = (w.alloc (.cells #[.int .i64 8, .string k, .string d, .int .i64 n] 34)).alloc (.cells Z8 66)) := ⟨_, rfl⟩
  have B1 : Hid (Below w.heap.size w W1) := by rw [HW.out]; exact ((Below.refl _ w).alloc (Nat.le_refl _) _).alloc (by simp) _
  have F1 : Hid (W1.heap[w.heap.size + 1]? = some (.cells Z8 66 (0, 0)) ∧ W1.heap.size = w.heap.size + 2) := by
    rw [HW.out]
    have h1 := (MapKept.heap_alloc (w.alloc (.cells #[.int .i64 8, .string k, .string d, .int .i64 n] 34)) (.cells Z8 66)).1
    have e : (w.alloc (.cells #[.int .i64 8, .string k, .string d, .int .i64 n] 34)).heap.size = w.heap.size + 1 := by simp
    rw [e] at h1
    exact ⟨h1, by simp⟩
  have H : Hid (Ds B g dv wv vv s w) := h
  have H1 : Hid (Ds B g dv wv vv s W1) := h.later B1.out
  have hB1 : B ≤ W1.heap.size := Nat.le_trans hB B1.out.size
  have RB : Hid (∀ w2, Below W1.heap.size W1 w2 → Rd B g wv s W1 w2) := fun w2 b2 => Rd.refl H1.out b2
  clear h
  have CC : Hid (Calls _ _ _ _ _) := xj.imageD H1.out hi
  rw [HW.out] at CC RB
  go_enter Tryz.func27, Tryz.ntmps27
  go_wp2_with (first | (go_at_call 31; refine CC.out.mono ?_; rintro _ w2 ⟨rfl, b2⟩; have R2 : Hid (Rd B g wv s _ w2) := RB.out w2 b2; clear b2; have F2 : Hid (w2.heap[w.heap.size + 1]? = some (.cells Z8 66 (0, 0))) := rd_cells H.out R2.out (by omega) (by have := F1.out.1; rw [HW.out] at this; exact this); obtain ⟨d0, d1, d2, d3, d4, d5, d6, d7⟩ := eight F2.out; obtain ⟨g0, g1, g2, g3, g4, g5, g6, g7⟩ := froz8 F2.out; have FIN : Hid (∀ W_, W_ = _ → _) := put8 w2 (w.heap.size + 1) _ _ _ _ _ _ _ _ (.string (imageT s.dur)) (.slice none 0 0) (.int .i64 0) (.int .i64 0) (.int .i64 0) (.int .i64 0) (.bool false) (.int .i64 0) _ F2.out; clear F2) | go_in)
  obtain ⟨G, hk2⟩ := FIN.out _ rfl
  obtain ⟨e0, e1, e2, e3, e4, e5, e6, e7⟩ := eight G
  refine bodyPost_ret (by simp [results, Tryz.results27, go_sem, e0, e1, e2, e3, e4, e5, e6, e7]; try rfl) rfl ?_
  exact ⟨_, _, _, rfl, World.ownsRow_nil _ _ _ _, rd_wrap (by have := F1.out.1; rw [HW.out] at this; exact this) H.out (by have := B1.out; rw [HW.out] at this; exact this) R2.out hk2 (by omega) (by have := F1.out.2; rw [HW.out] at this; omega)⟩
set_option maxRecDepth 20000 in
set_option maxHeartbeats 6400000 in
theorem td0 {B g : Nat} {dv wv vv : Value} {s : S} {w : World} (kind : Int) (k d : ByteArray) (n : Int) (h : Ds B g dv wv vv s w) (hk : k.size ≤ 140737488355328) (hd : d.size ≤ 140737488355328) (hn : n ≤ 9223372036854775807) (hl : s.dur.length + s.pend.length + 1 < 3518437208883) (ha : s.age < 4398046511104) (hi : isz s.dur ≤ 140737488355000) (hB : B ≤ w.heap.size) (hkind : kind < 1 ∨ 9 < kind) :
    Calls Tryz.prog 27 #[.pointer (some ⟨g, 0, none⟩), .agg #[.int .i64 kind, .string k, .string d, .int .i64 n]] w fun e w' => ∃ (na : Option Addr) (nl nc : Nat), e = .returned (.agg #[.string (aT s kind k), .slice na nl nc, .int .i64 (doS s kind k d n).1, .int .i64 (aA s kind), .int .i64 (aB s kind), .int .i64 (aC s kind), .bool (aD s kind), .int .i64 (aG s kind)]) ∧ w'.ownsRow w.heap.size 9 1 (.slice na nl nc) (aN s kind k).length ((aN s kind k).map Value.string) ∧ Rd B g wv (doS s kind k d n).2 w w' := by
  have HD : Hid (doS s kind k d n = (0, s)) := by
    show _ = _
    unfold doS
    rw [if_neg (by omega), if_neg (by omega), if_neg (by omega), if_neg (by omega), if_neg (by omega), if_neg (by omega)]
  rw [HD.out]
  have HAT : Hid (aT s kind k = ⟨#[]⟩) := by show _ = _; unfold aT; rw [if_neg (by omega), if_neg (by omega)]
  have HAN : Hid (aN s kind k = []) := by show _ = _; unfold aN; rw [if_neg (by omega)]
  have HAA : Hid (aA s kind = 0) := by show _ = _; unfold aA; rw [if_neg (by omega)]
  have HAB : Hid (aB s kind = 0) := by show _ = _; unfold aB; rw [if_neg (by omega)]
  have HAC : Hid (aC s kind = 0) := by show _ = _; unfold aC; rw [if_neg (by omega)]
  have HAD : Hid (aD s kind = false) := by show _ = _; unfold aD; rw [if_neg (by omega)]
  have HAG : Hid (aG s kind = 0) := by show _ = _; unfold aG; rw [if_neg (by omega)]
  rw [HAT.out, HAN.out, HAA.out, HAB.out, HAC.out, HAD.out, HAG.out]
  obtain ⟨W1, HW⟩ : ∃ W1, Hid (W1 = (w.alloc (.cells #[.int .i64 kind, .string k, .string d, .int .i64 n] 34)).alloc (.cells Z8 66)) := ⟨_, rfl⟩
  have B1 : Hid (Below w.heap.size w W1) := by rw [HW.out]; exact ((Below.refl _ w).alloc (Nat.le_refl _) _).alloc (by simp) _
  have F1 : Hid (W1.heap[w.heap.size + 1]? = some (.cells Z8 66 (0, 0)) ∧ W1.heap.size = w.heap.size + 2) := by
    rw [HW.out]
    have h1 := (MapKept.heap_alloc (w.alloc (.cells #[.int .i64 kind, .string k, .string d, .int .i64 n] 34)) (.cells Z8 66)).1
    have e : (w.alloc (.cells #[.int .i64 kind, .string k, .string d, .int .i64 n] 34)).heap.size = w.heap.size + 1 := by simp
    rw [e] at h1
    exact ⟨h1, by simp⟩
  have H : Hid (Ds B g dv wv vv s w) := h
  have H1 : Hid (Ds B g dv wv vv s W1) := h.later B1.out
  have hB1 : B ≤ W1.heap.size := Nat.le_trans hB B1.out.size
  have RB : Hid (∀ w2, Below W1.heap.size W1 w2 → Rd B g wv s W1 w2) := fun w2 b2 => Rd.refl H1.out b2
  clear h
  rw [HW.out] at H1 RB
  have q1 : (kind == 1) = false := by rw [beq_eq_false_iff_ne]; omega
  have q2 : (kind == 2) = false := by rw [beq_eq_false_iff_ne]; omega
  have q3 : (kind == 3) = false := by rw [beq_eq_false_iff_ne]; omega
  have q4 : (kind == 4) = false := by rw [beq_eq_false_iff_ne]; omega
  have q5 : (kind == 5) = false := by rw [beq_eq_false_iff_ne]; omega
  have q6 : (kind == 6) = false := by rw [beq_eq_false_iff_ne]; omega
  have q7 : (kind == 7) = false := by rw [beq_eq_false_iff_ne]; omega
  have q8 : (kind == 8) = false := by rw [beq_eq_false_iff_ne]; omega
  have q9 : (kind == 9) = false := by rw [beq_eq_false_iff_ne]; omega
  clear hkind
  go_enter Tryz.func27, Tryz.ntmps27
  go_wp2_with (fail)
  have G := (MapKept.heap_alloc (w.alloc (.cells #[.int .i64 kind, .string k, .string d, .int .i64 n] 34)) (.cells #[.string ⟨#[]⟩, .slice none 0 0, .int .i64 0, .int .i64 0, .int .i64 0, .int .i64 0, .bool false, .int .i64 0] 66)).1
  have e : (w.alloc (.cells #[.int .i64 kind, .string k, .string d, .int .i64 n] 34)).heap.size = w.heap.size + 1 := by simp
  rw [e] at G
  obtain ⟨e0, e1, e2, e3, e4, e5, e6, e7⟩ := eight G
  refine bodyPost_ret (by simp [results, Tryz.results27, go_sem, e0, e1, e2, e3, e4, e5, e6, e7]; try rfl) rfl ?_
  have bb : Below w.heap.size w ((w.alloc (.cells #[.int .i64 kind, .string k, .string d, .int .i64 n] 34)).alloc (.cells #[.string ⟨#[]⟩, .slice none 0 0, .int .i64 0, .int .i64 0, .int .i64 0, .int .i64 0, .bool false, .int .i64 0] 66)) := ((Below.refl _ w).alloc (Nat.le_refl _) _).alloc (by simp) _
  exact ⟨_, _, _, rfl, World.ownsRow_nil _ _ _ _, Rd.refl H.out bb⟩
end Go.Proofs.YtlkkibiedlakfaaGreat.xk

namespace Go.Proofs.YtlkkibiedlakfaaGreat.xl
open Go.RowKit Go.PlainAid Go.Maps Go.Shelf
open Go.Proofs.YtlkkibiedlakfaaGreat.ca Go.Proofs.YtlkkibiedlakfaaGreat.cb Go.Proofs.YtlkkibiedlakfaaGreat.cp Go.Proofs.YtlkkibiedlakfaaGreat.kp Go.Proofs.YtlkkibiedlakfaaGreat.ka Go.Proofs.YtlkkibiedlakfaaGreat.ya Go.Proofs.YtlkkibiedlakfaaGreat.yb Go.Proofs.YtlkkibiedlakfaaGreat.yc Go.Proofs.YtlkkibiedlakfaaGreat.yd Go.Proofs.YtlkkibiedlakfaaGreat.ye Go.Proofs.YtlkkibiedlakfaaGreat.yf Go.Proofs.YtlkkibiedlakfaaGreat.yi Go.Proofs.YtlkkibiedlakfaaGreat.yk Go.Proofs.YtlkkibiedlakfaaGreat.yl Go.Proofs.YtlkkibiedlakfaaGreat.ym Go.Proofs.YtlkkibiedlakfaaGreat.yo Go.Proofs.YtlkkibiedlakfaaGreat.yp Go.Proofs.YtlkkibiedlakfaaGreat.yr Go.Proofs.YtlkkibiedlakfaaGreat.zg Go.Proofs.YtlkkibiedlakfaaGreat.xa Go.Proofs.YtlkkibiedlakfaaGreat.xb Go.Proofs.YtlkkibiedlakfaaGreat.xc
set_option linter.unusedVariables false
set_option linter.unusedSimpArgs false
theorem usedN {B g : Nat} {dv wv vv : Value} {s : S} {w : World} (h : Ds B g dv wv vv s w) : Calls Tryz.prog 71 #[.pointer (some ⟨g, 0, none⟩)] w fun e w' => e = .returned (.int .i64 (tot (now s) : Nat)) ∧ ∃ n, w' = w.drewN n := by
  have c0 := h.row.c6
  have CC : Hid (Calls _ _ _ _ _) := cntsC vv (now s) w h.vl h.ok.now h.ok.lnow
  obtain ⟨a, c, rfl⟩ := lr_form h.vl
  obtain ⟨T, HT⟩ : ∃ T, Hid (tot (now s) = T) := ⟨_, rfl⟩
  rw [HT.out] at CC ⊢
  generalize (now s).length = n at *
  clear h
  go_enter Tryz.func71, Tryz.ntmps71
  go_wp2_with fail
  refine CC.out.mono ?_
  rintro _ w1 ⟨rfl, hw⟩
  have HW : Hid (∃ n, w1 = w.drewN n) := hw
  clear hw
  go_wp2
  go_ret
  exact ⟨rfl, HW.out⟩
set_option maxRecDepth 20000 in
set_option maxHeartbeats 6400000 in
theorem td9 {B g : Nat} {dv wv vv : Value} {s : S} {w : World} (kind : Int) (k d : ByteArray) (n : Int) (h : Ds B g dv wv vv s w) (hk : k.size ≤ 140737488355328) (hd : d.size ≤ 140737488355328) (hn : n ≤ 9223372036854775807) (hl : s.dur.length + s.pend.length + 1 < 3518437208883) (ha : s.age < 4398046511104) (hi : isz s.dur ≤ 140737488355000) (hB : B ≤ w.heap.size) (hkind : kind = 9) :
    Calls Tryz.prog 27 #[.pointer (some ⟨g, 0, none⟩), .agg #[.int .i64 kind, .string k, .string d, .int .i64 n]] w fun e w' => ∃ (na : Option Addr) (nl nc : Nat), e = .returned (.agg #[.string (aT s kind k), .slice na nl nc, .int .i64 (doS s kind k d n).1, .int .i64 (aA s kind), .int .i64 (aB s kind), .int .i64 (aC s kind), .bool (aD s kind), .int .i64 (aG s kind)]) ∧ w'.ownsRow w.heap.size 9 1 (.slice na nl nc) (aN s kind k).length ((aN s kind k).map Value.string) ∧ Rd B g wv (doS s kind k d n).2 w w' := by
  subst hkind
  have HD : Hid (doS s 9 k d n = (0, s)) := by show _ = _; unfold doS; simp
  rw [HD.out]
  have HAT : Hid (aT s 9 k = ⟨#[]⟩) := by show _ = _; unfold aT; simp
  have HAN : Hid (aN s 9 k = []) := by show _ = _; unfold aN; simp
  have HAA : Hid (aA s 9 = s.pend.length) := by show _ = _; unfold aA; simp
  have HAB : Hid (aB s 9 = (tot (now s) : Nat)) := by show _ = _; unfold aB; simp
  have HAC : Hid (aC s 9 = s.cap) := by show _ = _; unfold aC; simp
  have HAD : Hid (aD s 9 = s.off) := by show _ = _; unfold aD; simp
  have HAG : Hid (aG s 9 = s.age) := by show _ = _; unfold aG; simp
  rw [HAT.out, HAN.out, HAA.out, HAB.out, HAC.out, HAD.out, HAG.out]
  obtain ⟨W1, HW⟩ : ∃ W1, Hid (W1 = (w.alloc (.cells #[.int .i64 9, .string k, .string d, .int .i64 n] 34)).alloc (.cells Z8 66)) := ⟨_, rfl⟩
  have B1 : Hid (Below w.heap.size w W1) := by rw [HW.out]; exact ((Below.refl _ w).alloc (Nat.le_refl _) _).alloc (by simp) _
  have F1 : Hid (W1.heap[w.heap.size + 1]? = some (.cells Z8 66 (0, 0)) ∧ W1.heap.size = w.heap.size + 2) := by
    rw [HW.out]
    have h1 := (MapKept.heap_alloc (w.alloc (.cells #[.int .i64 9, .string k, .string d, .int .i64 n] 34)) (.cells Z8 66)).1
    have e : (w.alloc (.cells #[.int .i64 9, .string k, .string d, .int .i64 n] 34)).heap.size = w.heap.size + 1 := by simp
    rw [e] at h1
    exact ⟨h1, by simp⟩
  have H : Hid (Ds B g dv wv vv s w) := h
  have H1 : Hid (Ds B g dv wv vv s W1) := h.later B1.out
  have hB1 : B ≤ W1.heap.size := Nat.le_trans hB B1.out.size
  have RB : Hid (∀ w2, Below W1.heap.size W1 w2 → Rd B g wv s W1 w2) := fun w2 b2 => Rd.refl H1.out b2
  clear h

  have CP : Hid (Calls _ _ _ _ _) := pendD H1.out
  have CU : Hid (Calls _ _ _ _ _) := usedN H1.out
  have D3 : Hid (∀ w3, (∃ n, w3 = W1.drewN n) → Ds B g dv wv vv s w3 ∧ w3.heap[w.heap.size + 1]? = some (.cells Z8 66 (0, 0)) ∧ Below W1.heap.size W1 w3) := by
    rintro w3 ⟨n, rfl⟩
    have b : Below W1.heap.size W1 (W1.drewN n) := zh.below_dN (Below.refl _ _) n
    exact ⟨H1.out.later b, (b.block _ (by rw [F1.out.2]; omega)).trans F1.out.1, b⟩
  have CR : Hid (∀ w1, Ds B g dv wv vv s w1 → Calls _ _ _ _ _) := fun w1 h1 => roomD h1
  have CD : Hid (∀ w1, Ds B g dv wv vv s w1 → Calls _ _ _ _ _) := fun w1 h1 => downD h1
  have CA : Hid (∀ w1, Ds B g dv wv vv s w1 → Calls _ _ _ _ _) := fun w1 h1 => ageD h1
  rw [HW.out] at CP CU D3 RB
  go_enter Tryz.func27, Tryz.ntmps27
  go_wp2_with (first | (go_at_call 70; refine CP.out.mono ?_; rintro _ _ ⟨rfl, hw⟩; rw [hw]; clear hw) | (go_at_call 71; refine CU.out.mono ?_; rintro _ w3 ⟨rfl, hw⟩; have H3 : Hid (Ds _ _ _ _ _ _ w3) := (D3.out _ hw).1; have F3 : Hid (w3.heap[w.heap.size + 1]? = some (.cells Z8 66 (0, 0))) := (D3.out _ hw).2.1; have B3 : Hid (Below _ _ w3) := (D3.out _ hw).2.2; clear hw D3; obtain ⟨d0, d1, d2, d3, d4, d5, d6, d7⟩ := eight F3.out; obtain ⟨g0, g1, g2, g3, g4, g5, g6, g7⟩ := froz8 F3.out) | (go_at_call 72; refine (CR.out _ H3.out).mono ?_; rintro _ _ ⟨rfl, hw⟩; rw [hw]; clear hw) | (go_at_call 73; refine (CD.out _ H3.out).mono ?_; rintro _ _ ⟨rfl, hw⟩; rw [hw]; clear hw) | (go_at_call 74; refine (CA.out _ H3.out).mono ?_; rintro _ _ ⟨rfl, hw⟩; rw [hw]; clear hw) | go_in)
  have FIN : Hid (∀ W', W' = _ → _) := put8 w3 (w.heap.size + 1) _ _ _ _ _ _ _ _ (.string ⟨#[]⟩) (.slice none 0 0) (.int .i64 0) (.int .i64 s.pend.length) (.int .i64 (tot (now s) : Nat)) (.int .i64 s.cap) (.bool s.off) (.int .i64 s.age) _ F3.out
  obtain ⟨G, hk2⟩ := FIN.out _ rfl
  obtain ⟨e0, e1, e2, e3, e4, e5, e6, e7⟩ := eight G
  refine bodyPost_ret (by simp [results, Tryz.results27, go_sem, e0, e1, e2, e3, e4, e5, e6, e7]; try rfl) rfl ?_
  exact ⟨_, _, _, rfl, World.ownsRow_nil _ _ _ _, xk.rd_wrap (by have := F1.out.1; rw [HW.out] at this; exact this) H.out (by have := B1.out; rw [HW.out] at this; exact this) (RB.out _ B3.out) hk2 (by omega) (by have := F1.out.2; rw [HW.out] at this; omega)⟩
theorem toldT {B g : Nat} {dv wv vv : Value} {s : S} {w : World} (kind : Int) (k d : ByteArray) (n : Int) (h : Ds B g dv wv vv s w) (hk : k.size ≤ 140737488355328) (hd : d.size ≤ 140737488355328) (hn : n ≤ 9223372036854775807) (hl : s.dur.length + s.pend.length + 1 < 3518437208883) (ha : s.age < 4398046511104) (hi : isz s.dur ≤ 140737488355000) (hB : B ≤ w.heap.size) :
    Calls Tryz.prog 27 #[.pointer (some ⟨g, 0, none⟩), .agg #[.int .i64 kind, .string k, .string d, .int .i64 n]] w fun e w' => ∃ (na : Option Addr) (nl nc : Nat), e = .returned (.agg #[.string (aT s kind k), .slice na nl nc, .int .i64 (doS s kind k d n).1, .int .i64 (aA s kind), .int .i64 (aB s kind), .int .i64 (aC s kind), .bool (aD s kind), .int .i64 (aG s kind)]) ∧ w'.ownsRow w.heap.size 9 1 (.slice na nl nc) (aN s kind k).length ((aN s kind k).map Value.string) ∧ Rd B g wv (doS s kind k d n).2 w w' := by
  by_cases h1 : kind = 1
  · exact xk.td1 kind k d n h hk hd hn hl ha hi hB h1
  by_cases h2 : kind = 2
  · exact xk.td2 kind k d n h hk hd hn hl ha hi hB h2
  by_cases h3 : kind = 3
  · exact xk.td3 kind k d n h hk hd hn hl ha hi hB h3
  by_cases h4 : kind = 4
  · exact xk.td4 kind k d n h hk hd hn hl ha hi hB h4
  by_cases h5 : kind = 5
  · exact xk.td5 kind k d n h hk hd hn hl ha hi hB h5
  by_cases h6 : kind = 6
  · exact xk.td6 kind k d n h hk hd hn hl ha hi hB h6
  by_cases h7 : kind = 7
  · exact xk.td7 kind k d n h hk hd hn hl ha hi hB h7
  by_cases h8 : kind = 8
  · exact xk.td8 kind k d n h hk hd hn hl ha hi hB h8
  by_cases h9 : kind = 9
  · exact td9 kind k d n h hk hd hn hl ha hi hB h9
  exact xk.td0 kind k d n h hk hd hn hl ha hi hB (by omega)
end Go.Proofs.YtlkkibiedlakfaaGreat.xl
