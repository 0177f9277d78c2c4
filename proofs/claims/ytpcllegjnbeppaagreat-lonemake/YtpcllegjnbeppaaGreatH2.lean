import Derived.Shelf.Slices.CompactI
import Derived.Test.YtpcllegjnbeppaaGreatProg
import Derived.Test.YtpcllegjnbeppaaGreatH1
import Derived.OwnWalk
import Derived.Lib.OwnBridge
namespace Go.Proofs.YtpcllegjnbeppaaGreat.sc
open Go.Shelf
set_option linter.unusedVariables false
def laysNm220_ren : Go.Shelf.Ren := ⟨fun | 20 => 152 | n => n, fun | 22 => 63 | 3 => 3 | 4 => 4 | 0 => 0 | n => n, fun | n => n⟩
theorem laysNm220 : Go.Proofs.Lays2.n20 Tryz.prog laysNm220_ren := {
  mixed := by kernel_rfl
  f20 := Tryz.func152.trans (congrArg some (by kernel_rfl))
  t0 := Tryz.underlying0
  a0 := Tryz.isAgg0
  z0 := Tryz.sizeOf0
  v0 := Tryz.zeroValue0
  t3 := Tryz.underlying3
  a3 := Tryz.isAgg3
  z3 := Tryz.sizeOf3
  v3 := Tryz.zeroValue3
  t4 := Tryz.underlying4
  a4 := Tryz.isAgg4
  z4 := Tryz.sizeOf4
  v4 := Tryz.zeroValue4
  t22 := Tryz.underlying63
  a22 := Tryz.isAgg63
  z22 := Tryz.sizeOf63
  v22 := Tryz.zeroValue63
  i3 := by kernel_rfl }
end Go.Proofs.YtpcllegjnbeppaaGreat.sc

namespace Go.Proofs.YtpcllegjnbeppaaGreat.hf
open Go.RowKit Go.PlainAid Go.Maps Go.Shelf
open Go.Proofs.YtpcllegjnbeppaaGreat.kp Go.Proofs.YtpcllegjnbeppaaGreat.ka Go.Proofs.YtpcllegjnbeppaaGreat.ya Go.Proofs.YtpcllegjnbeppaaGreat.yb Go.Proofs.YtpcllegjnbeppaaGreat.yc Go.Proofs.YtpcllegjnbeppaaGreat.yd Go.Proofs.YtpcllegjnbeppaaGreat.ye Go.Proofs.YtpcllegjnbeppaaGreat.yf Go.Proofs.YtpcllegjnbeppaaGreat.yg Go.Proofs.YtpcllegjnbeppaaGreat.yi Go.Proofs.YtpcllegjnbeppaaGreat.yj Go.Proofs.YtpcllegjnbeppaaGreat.yk Go.Proofs.YtpcllegjnbeppaaGreat.yl Go.Proofs.YtpcllegjnbeppaaGreat.ym
open Go.Proofs.YtpcllegjnbeppaaGreat.tqa Go.Proofs.YtpcllegjnbeppaaGreat.tba Go.Proofs.YtpcllegjnbeppaaGreat.tbc Go.Proofs.YtpcllegjnbeppaaGreat.tbd Go.Proofs.YtpcllegjnbeppaaGreat.tbe
open Go.Proofs.YtpcllegjnbeppaaGreat.tbf (okI)
open Go.Proofs.YtpcllegjnbeppaaGreat.cp (own_later)
open Go.Proofs.YtpcllegjnbeppaaGreat.tqb (over)
open Go.Proofs.YtpcllegjnbeppaaGreat.ea Go.Proofs.YtpcllegjnbeppaaGreat.eb Go.Proofs.YtpcllegjnbeppaaGreat.ec Go.Proofs.YtpcllegjnbeppaaGreat.ed Go.Proofs.YtpcllegjnbeppaaGreat.ee Go.Proofs.YtpcllegjnbeppaaGreat.ef Go.Proofs.YtpcllegjnbeppaaGreat.eg Go.Proofs.YtpcllegjnbeppaaGreat.eh Go.Proofs.YtpcllegjnbeppaaGreat.ei Go.Proofs.YtpcllegjnbeppaaGreat.ej Go.Proofs.YtpcllegjnbeppaaGreat.ek Go.Proofs.YtpcllegjnbeppaaGreat.el Go.Proofs.YtpcllegjnbeppaaGreat.ha Go.Proofs.YtpcllegjnbeppaaGreat.hb Go.Proofs.YtpcllegjnbeppaaGreat.hc Go.Proofs.YtpcllegjnbeppaaGreat.hd
set_option linter.unusedVariables false
set_option linter.unusedSimpArgs false
theorem ent_next : ∀ args w, (callFunc 122 args).run Tryz.prog w = .ok (.enter 122 args) w := enters_of Tryz.func122 (by kernel_rfl) rfl
-- the standing list as far as it is read: the keeper's box K, the list's box L
structure Sd (w0 : World) (K L g : Nat) (sp age : Int) (lv : Value) (l : List ByteArray) (w : World) : Prop where
  kb : w.heap[K]? = some (.cells #[.pointer (some ⟨g, 0, none⟩), .int .i64 sp, .int .i64 age] 137 (0, 0))
  lb : w.heap[L]? = some (.cells #[lv] 91 (0, 0))
  lr : w.ownsRow w0.heap.size 9 1 lv l.length (l.map Value.string)
  bl : Below w0.heap.size w0 w
  hK : w0.heap.size ≤ K
  hL : w0.heap.size ≤ L
theorem Sd.later {w0 w w' : World} {K L g : Nat} {sp age : Int} {lv : Value} {l : List ByteArray} (h : Sd w0 K L g sp age lv l w) (b : Below w.heap.size w w') : Sd w0 K L g sp age lv l w' :=
  ⟨(b.block _ (Array.getElem?_eq_some_iff.1 h.kb).1).trans h.kb, (b.block _ (Array.getElem?_eq_some_iff.1 h.lb).1).trans h.lb, own_later h.lr b, over h.bl b, h.hK, h.hL⟩
set_option maxRecDepth 100000 in
set_option maxHeartbeats 3200000 in
theorem nextC {B g bn bd K L : Nat} {pv lv : Value} {s : S} {w0 w : World} {sp age : Int} {l : List ByteArray} (h : Sr B g bn bd pv s w0) (hs : okI sp) (hd : Sd w0 K L g sp age lv l w) (hl : l.length < 1099511627776) :
    Calls Tryz.prog 122 #[.pointer (some ⟨K, 0, none⟩), .pointer (some ⟨L, 0, none⟩)] w fun r w' => r = .returned (.bool (lf s sp l.length).isSome) ∧ ∃ lv', Sd w0 K L g sp age lv' (l ++ (lf s sp l.length).toList) w' := by
  obtain ⟨la, lc, hlf⟩ := own_formS hd.lr
  subst hlf
  have k0 := cell_of_row _ _ 0 _ _ _ hd.kb
  have k1 := cell_of_row _ _ 1 _ _ _ hd.kb
  have k2 := cell_of_row _ _ 2 _ _ _ hd.kb
  have l0 := cell_of_row _ _ 0 _ _ _ hd.lb
  have HD : Hid (∀ w1, Below w.heap.size w w1 → Sd w0 K L g sp age (.slice la l.length lc) l w1) := fun w1 b => hd.later b
  have CG : Hid (Calls _ _ _ _ _) := kgetC sp age 1 (l.length : Int) (sr_later h hd.bl) hs.2 (by omega)
  have HLF : Hid (lf s sp l.length = if (bgetS s sp 1 (l.length : Nat)).2 = 0 ∧ (bgetS s sp 1 (l.length : Nat)).1.size ≤ 4096 then some (bgetS s sp 1 (l.length : Nat)).1 else none) := rfl
  rw [HLF.out]
  clear HLF
  obtain ⟨q, HQ⟩ : ∃ q, Hid (bgetS s sp 1 (l.length : Nat) = q) := ⟨_, rfl⟩
  rw [HQ.out] at CG ⊢
  obtain ⟨x, er⟩ := q
  obtain ⟨n, HN⟩ : ∃ n, Hid (l.length = n) := ⟨_, rfl⟩
  have hnn : (n : Int) < 1099511627776 := by rw [← HN.out]; omega
  rw [HN.out] at CG l0 HD
  clear h hd HQ
  by_cases he : er = 0
  · subst he
    by_cases hx : x.size ≤ 4096
    · have HX : Hid ((if (0 : Int) = 0 ∧ x.size ≤ 4096 then some x else none) = some x) := if_pos ⟨rfl, hx⟩
      have HX' : Hid ((if ((x, (0 : Int)) : ByteArray × Int).2 = 0 ∧ ((x, (0 : Int)) : ByteArray × Int).1.size ≤ 4096 then some ((x, (0 : Int)) : ByteArray × Int).1 else none) = some x) := HX.out
      rw [HX'.out]
      have hx' : decide ((x.size : Int) > 4096) = false := decide_eq_false (by omega)
      obtain ⟨i9, hi9', hz0, hz1, hz2⟩ := info_parts hi9
      have HIN : Hid (_ ∧ _ ∧ _ ∧ _) := ⟨hi9', hz0, hz1, hz2⟩
      clear hi9' hz0 hz1 hz2 HX HX'
      go_enter Tryz.func122, Tryz.ntmps122
      go_upto_region 4 with (first | (go_at_call 123; refine CG.out.mono ?_; rintro _ w1 ⟨rfl, b1⟩; have D1 : Hid _ := HD.out w1 b1; clear b1) | go_in)
      have l1 := cell_of_row _ _ 0 _ _ _ D1.out.lb
      have D2 : Hid _ := D1.out.later (new1 w1 (.cells #[.string x] 9))
      have hsz : w0.heap.size ≤ w1.heap.size := D1.out.bl.size
      have O2 : Hid ((w1.alloc (.cells #[.string x] 9)).ownsRow w0.heap.size 9 1 (.slice la n lc) n (l.map Value.string)) := by
        have := D2.out.lr
        rw [HN.out] at this
        exact this
      have HDN : Hid (∀ v' w7, w7.ownsRow w0.heap.size 9 1 v' (n + 1) (l.map Value.string ++ [.string x]) → (w1.alloc (.cells #[.string x] 9)).grownBy w7 (Value.slice la n lc).ownBlock → w7.cell? ⟨L, 0, none⟩ = some (.slice la n lc) ∧ w7.frozen? ⟨L, 0, none⟩ = false ∧ Sd w0 K L g sp age v' (l ++ [x]) (w7.setCell ⟨L, 0, none⟩ v')) := fun v' w7 ho hg => by
        have k2 : Kp (fun k => some k = (Value.slice la n lc).ownBlock) (w1.alloc (.cells #[.string x] 9)) w7 := ⟨hg.os, hg.tape, hg.output, hg.size, fun j hj hn => hg.block j hj (fun e => hn e)⟩
        have hkb := (k2.block K (Array.getElem?_eq_some_iff.1 D2.out.kb).1 (fun e => own_tag O2.out D2.out.kb (by decide) e)).trans D2.out.kb
        have hlb := (k2.block L (Array.getElem?_eq_some_iff.1 D2.out.lb).1 (fun e => own_tag O2.out D2.out.lb (by decide) e)).trans D2.out.lb
        have k3 : Kp (fun k => k = L) w7 (w7.setCell ⟨L, 0, none⟩ v') := Kp.setCell _ _ _ _ rfl
        refine ⟨cell_of_row _ _ 0 _ _ _ hlb, frozen_of_row _ _ 0 _ _ hlb, ⟨?_, ?_, ?_, ?_, D1.out.hK, D1.out.hL⟩⟩
        · refine (k3.block K (Array.getElem?_eq_some_iff.1 hkb).1 (fun e => ?_)).trans hkb
          subst e
          rw [hlb] at hkb
          injection hkb with hkb
          injection hkb with _ hkb _
          exact absurd hkb (by decide)
        · exact heap_setCell_same _ _ 0 _ _ v' hlb
        · rw [List.length_append, List.map_append, HN.out]
          exact own_kp ho k3 (fun j hj e => by subst e; exact own_tag ho hlb (by decide) hj)
        · have b7 : Below w0.heap.size w0 w7 := D2.out.bl.grown hg (by simp; omega) (fun j hj => (O2.out.lt _ hj).1)
          exact b7.trans (k3.below (fun q e => by rw [e]; exact D1.out.hL) b7.size)
      go_wp2_with (first | (at_builtin; (refine wpList_append_own _ rfl _ _ 91 rfl w0.heap.size 9 i9 (.string ByteArray.empty) 1 16 Tryz.underlying91 HIN.out.1 HIN.out.2.1 HIN.out.2.2.1 HIN.out.2.2.2 rfl (by decide) _ n _ rfl O2.out ⟨w1.heap.size, 0, none⟩ 1 1 [.string x] rfl rfl (new_text _ _ _) (one_text _) (by unfold maxLen; omega) (by omega) (by simp; omega) ?_; intro v' w7 ho hg hnn2; have F7 : Hid _ := HDN.out v' w7 ho hg; have d7 := F7.out.1; have f7 := F7.out.2.1; have FF : Hid _ := F7.out.2.2; have hfv : ∃ a c, v' = .slice a (n + 1) c := own_formS ho; clear ho hg hnn2 F7; obtain ⟨va, vc, rfl⟩ := hfv)) | go_in)
      go_ret
      exact ⟨rfl, _, FF.out⟩
    · have HX' : Hid ((if ((x, (0 : Int)) : ByteArray × Int).2 = 0 ∧ ((x, (0 : Int)) : ByteArray × Int).1.size ≤ 4096 then some ((x, (0 : Int)) : ByteArray × Int).1 else none) = none) := if_neg (fun h => hx h.2)
      rw [HX'.out]
      have hx' : decide ((x.size : Int) > 4096) = true := decide_eq_true (by omega)
      clear HX' hx
      go_enter Tryz.func122, Tryz.ntmps122
      go_wp2_with (first | (go_at_call 123; refine CG.out.mono ?_; rintro _ w1 ⟨rfl, b1⟩; have D1 : Hid _ := HD.out w1 b1; clear b1) | go_in)
      go_ret
      exact ⟨rfl, _, by simpa using D1.out⟩
  · have HX' : Hid ((if ((x, er) : ByteArray × Int).2 = 0 ∧ ((x, er) : ByteArray × Int).1.size ≤ 4096 then some ((x, er) : ByteArray × Int).1 else none) = none) := if_neg (fun h => he h.1)
    rw [HX'.out]
    have he' : (er != 0) = true := by rw [bne_iff_ne]; exact he
    clear HX' he
    go_enter Tryz.func122, Tryz.ntmps122
    go_wp2_with (first | (go_at_call 123; refine CG.out.mono ?_; rintro _ w1 ⟨rfl, b1⟩; have D1 : Hid _ := HD.out w1 b1; clear b1) | go_in)
    go_ret
    exact ⟨rfl, _, by simpa using D1.out⟩
set_option maxRecDepth 100000 in
set_option maxHeartbeats 3200000 in
theorem standingC {B g bn bd : Nat} {pv : Value} {s : S} {w : World} (sp age : Int) (l : List ByteArray) (h : Sr B g bn bd pv s w) (hs : okI sp) (hst : IsSt s sp l) (hl : l.length < 1099511627776) :
    Calls Tryz.prog 95 #[.agg #[.pointer (some ⟨g, 0, none⟩), .int .i64 sp, .int .i64 age]] w fun r w' => ∃ v, r = .returned v ∧ w'.ownsRow w.heap.size 9 1 v l.length (l.map Value.string) ∧ Below w.heap.size w w' := by
  have HST : Hid (IsSt s sp l) := hst
  have CN : Hid (∀ w1 lv i, Sd w w.heap.size (w.heap.size + 1) g sp age lv (l.take i) w1 → i ≤ l.length → Calls _ _ _ _ _) := fun w1 lv i hd hi => nextC h hs hd (by rw [List.length_take]; omega)
  have H0 : Hid (Sd w w.heap.size (w.heap.size + 1) g sp age (.slice none 0 0) [] ((w.alloc (.cells #[.pointer (some ⟨g, 0, none⟩), .int .i64 sp, .int .i64 age] 137)).alloc (.cells #[.slice none 0 0] 91))) := by
    have b1 := new1 w (.cells #[.pointer (some ⟨g, 0, none⟩), .int .i64 sp, .int .i64 age] 137)
    have b2 := new1 (w.alloc (.cells #[.pointer (some ⟨g, 0, none⟩), .int .i64 sp, .int .i64 age] 137)) (.cells #[.slice none 0 0] 91)
    refine ⟨(b2.block _ (by simp)).trans (heap_alloc_new w _), ?_, World.ownsRow_nil _ _ _ _, over b1 b2, Nat.le_refl _, by omega⟩
    have := heap_alloc_new (w.alloc (.cells #[.pointer (some ⟨g, 0, none⟩), .int .i64 sp, .int .i64 age] 137)) (.cells #[.slice none 0 0] 91)
    have e1 : (w.alloc (.cells #[.pointer (some ⟨g, 0, none⟩), .int .i64 sp, .int .i64 age] 137)).heap.size = w.heap.size + 1 := by simp
    rw [e1] at this
    exact this
  have HF := ent_next
  clear h hst
  go_enter Tryz.func95, Tryz.ntmps95
  go_wp2_with fail
  go_loopg [7] l.length (fun gas _ wr => ∃ (i : Nat) (lv : Value), i ≤ l.length ∧ l.length - i ≤ gas ∧ Hid (Sd w w.heap.size (w.heap.size + 1) g sp age lv (l.take i) wr))
  case atStart => exact ⟨0, _, by omega, by omega, (by show Sd _ _ _ _ _ _ _ _ _; rw [List.take_zero]; exact H0.out)⟩
  case round =>
    obtain ⟨i, lv, hi, hgas, HH⟩ := hrel
    have C0 : Hid (Calls _ _ _ _ _) := CN.out wr lv i HH.out hi
    have HLN : Hid ((l.take i).length = i) := by show _ = _; rw [List.length_take]; omega
    rw [HLN.out] at C0
    by_cases hlt : i < l.length
    · obtain ⟨x, hx⟩ : ∃ x, l[i]? = some x := ⟨_, List.getElem?_eq_getElem hlt⟩
      have HLF : Hid (lf s sp i = some x) := (HST.out.has i hlt).trans hx
      have HTK : Hid (l.take (i + 1) = l.take i ++ [x]) := by show _ = _; rw [List.take_add_one, hx]; rfl
      rw [HLF.out] at C0
      have C1 : Hid (Calls Tryz.prog 122 #[.pointer (some ⟨w.heap.size, 0, none⟩), .pointer (some ⟨w.heap.size + 1, 0, none⟩)] wr fun r w' => r = .returned (.bool true) ∧ ∃ lv', Sd w w.heap.size (w.heap.size + 1) g sp age lv' (l.take (i + 1)) w') := by
        rw [HTK.out]; exact C0.out
      clear hx HLF C0 HTK
      go_wp2_with (first | (go_at_call 122; refine C1.out.mono ?_; rintro _ w2 ⟨rfl, lv', h2⟩; have H2 : Hid _ := h2; clear h2) | go_in)
      go_roundg (l.length - (i + 1))
      case measure => omega
      case rel => exact ⟨i + 1, lv', by omega, by omega, H2.out⟩
    · obtain rfl : i = l.length := by omega
      have HLF : Hid (lf s sp l.length = none) := HST.out.ends
      rw [HLF.out] at C0
      have C1 : Hid (Calls Tryz.prog 122 #[.pointer (some ⟨w.heap.size, 0, none⟩), .pointer (some ⟨w.heap.size + 1, 0, none⟩)] wr fun r w' => r = .returned (.bool false) ∧ ∃ lv', Sd w w.heap.size (w.heap.size + 1) g sp age lv' l w') := by
        refine C0.out.mono ?_
        rintro r w' ⟨e1, lv', h2⟩
        exact ⟨e1, lv', by simpa using h2⟩
      clear HLF C0
      go_upto_region 4 with (first | (go_at_call 122; refine C1.out.mono ?_; rintro _ w2 ⟨rfl, lv', h2⟩; have H2 : Hid _ := h2; clear h2) | go_in)
      have l2 := cell_of_row _ _ 0 _ _ _ H2.out.lb
      obtain ⟨va, vc, hvf⟩ := own_formS H2.out.lr
      subst hvf
      go_wp2
      go_ret
      exact ⟨_, rfl, H2.out.lr, H2.out.bl⟩
end Go.Proofs.YtpcllegjnbeppaaGreat.hf

namespace Go.Proofs.YtpcllegjnbeppaaGreat.hg
open Go.RowKit Go.PlainAid Go.Maps Go.Shelf
open Go.Proofs.YtpcllegjnbeppaaGreat.kp Go.Proofs.YtpcllegjnbeppaaGreat.ka Go.Proofs.YtpcllegjnbeppaaGreat.ya Go.Proofs.YtpcllegjnbeppaaGreat.yb Go.Proofs.YtpcllegjnbeppaaGreat.yc Go.Proofs.YtpcllegjnbeppaaGreat.yd Go.Proofs.YtpcllegjnbeppaaGreat.ye Go.Proofs.YtpcllegjnbeppaaGreat.yf Go.Proofs.YtpcllegjnbeppaaGreat.yg Go.Proofs.YtpcllegjnbeppaaGreat.yi Go.Proofs.YtpcllegjnbeppaaGreat.yj Go.Proofs.YtpcllegjnbeppaaGreat.yk Go.Proofs.YtpcllegjnbeppaaGreat.yl Go.Proofs.YtpcllegjnbeppaaGreat.ym
open Go.Proofs.YtpcllegjnbeppaaGreat.tqa Go.Proofs.YtpcllegjnbeppaaGreat.tba Go.Proofs.YtpcllegjnbeppaaGreat.tbb Go.Proofs.YtpcllegjnbeppaaGreat.tbc Go.Proofs.YtpcllegjnbeppaaGreat.tbd Go.Proofs.YtpcllegjnbeppaaGreat.tbe
open Go.Proofs.YtpcllegjnbeppaaGreat.tbf (okI kind_is)
open Go.Proofs.YtpcllegjnbeppaaGreat.cp (own_later)
open Go.Proofs.YtpcllegjnbeppaaGreat.tqb (over keyC keyNo spaceT spaceT_size key_is)
open Go.Proofs.YtpcllegjnbeppaaGreat.ea Go.Proofs.YtpcllegjnbeppaaGreat.eb Go.Proofs.YtpcllegjnbeppaaGreat.ec Go.Proofs.YtpcllegjnbeppaaGreat.ed Go.Proofs.YtpcllegjnbeppaaGreat.ee Go.Proofs.YtpcllegjnbeppaaGreat.ef Go.Proofs.YtpcllegjnbeppaaGreat.eg Go.Proofs.YtpcllegjnbeppaaGreat.eh Go.Proofs.YtpcllegjnbeppaaGreat.ei Go.Proofs.YtpcllegjnbeppaaGreat.ej Go.Proofs.YtpcllegjnbeppaaGreat.ek Go.Proofs.YtpcllegjnbeppaaGreat.el Go.Proofs.YtpcllegjnbeppaaGreat.ha Go.Proofs.YtpcllegjnbeppaaGreat.hb Go.Proofs.YtpcllegjnbeppaaGreat.hc Go.Proofs.YtpcllegjnbeppaaGreat.hd Go.Proofs.YtpcllegjnbeppaaGreat.hf
set_option linter.unusedVariables false
set_option linter.unusedSimpArgs false
-- Drop
theorem bdropC {B g bn bd : Nat} {pv : Value} {s : S} {w : World} (sp k n : Int) (h : Sr B g bn bd pv s w) (h1 : sp ≤ 9223372036854775807) (n1 : n ≤ 9223372036854775807) (hl : s.dur.length + s.pend.length + 1 < 3518437208883) (hB : B ≤ w.heap.size) :
    Calls Tryz.prog 28 #[.pointer (some ⟨g, 0, none⟩), .int .i64 sp, .int .i64 k, .int .i64 n] w fun e w' => e = .returned (.int .i64 (bdropS s sp k n).1) ∧ Rn B g bn bd pv (bdropS s sp k n).2 w w' := by
  have H : Hid (Sr B g bn bd pv s w) := h
  unfold bdropS
  by_cases hk : 0 ≤ sp ∧ 1 ≤ k ∧ k ≤ 255 ∧ 0 ≤ n
  · rw [if_pos hk]
    have CK : Hid (∀ w, Calls _ _ _ _ _) := fun w => keyC sp k n w hk.1 h1 hk.2.1 hk.2.2.1 hk.2.2.2 n1
    have zk := keyT_size sp k n
    have CC : Hid (∀ w1, Below w.heap.size w w1 → Calls _ _ _ _ _) := fun w1 b1 => cutC (keyT sp k n) (sr_later H.out b1) (by omega) hl (Nat.le_trans hB b1.size)
    generalize keyT sp k n = K at *
    clear h hk hl
    go_enter Tryz.func28, Tryz.ntmps28
    go_wp2_with fail
    refine (CK.out _).mono ?_
    rintro _ w1 ⟨rfl, b1⟩
    have B1 : Hid (Below w.heap.size w w1) := b1
    clear b1
    go_wp2_with fail
    refine (CC.out w1 B1.out).mono ?_
    rintro _ w2 ⟨rfl, r2⟩
    have R2 : Hid (Rn _ _ _ _ _ _ _ _) := r2
    clear r2
    go_wp2
    go_ret
    exact ⟨rfl, rn_pre B1.out R2.out⟩
  · rw [if_neg hk]
    have CK : Hid (∀ w, Calls _ _ _ _ _) := fun w => keyNo sp k n w hk
    clear h hk hl
    go_enter Tryz.func28, Tryz.ntmps28
    go_wp2_with fail
    refine (CK.out _).mono ?_
    rintro _ _ ⟨rfl, hw⟩; rw [hw]; clear hw
    go_wp2
    go_ret
    exact ⟨rfl, Rn.refl H.out⟩
-- does a record belong to the list?
theorem belongsC (L : Nat) (a : Option Addr) (n c : Nat) (k x : Int) (w : World) (h : w.cell? ⟨L, 0, none⟩ = some (.slice a n c)) :
    Calls Tryz.prog 96 #[.int .i64 k, .int .i64 x, .pointer (some ⟨L, 0, none⟩)] w fun r w' => r = .returned (.bool (decide (k = 1 ∧ x < n))) ∧ w' = w := by
  by_cases hk : k = 1
  · subst hk
    have HE : Hid (decide ((1 : Int) = 1 ∧ x < n) = decide (x < n)) := by show _ = _; rw [decide_eq_decide]; simp
    rw [HE.out]
    go_enter Tryz.func96, Tryz.ntmps96
    go_wp2
    go_ret
    exact ⟨rfl, rfl⟩
  · have hk' : (k == 1) = false := by rw [beq_eq_false_iff_ne]; exact hk
    have HE : Hid (decide (k = 1 ∧ x < n) = false) := decide_eq_false (fun h => hk h.1)
    rw [HE.out]
    clear hk
    go_enter Tryz.func96, Tryz.ntmps96
    go_wp2
    go_ret
    exact ⟨rfl, rfl⟩
-- Compact
theorem compactC (B : Nat) (v : Value) (xs : List Int) (w0 w : World) (h : w.ownsRow B 3 1 v xs.length (xs.map (Value.int .i64))) (hb : Below B w0 w) (hl : xs.length ≤ 4611686018427387904) :
    Calls Tryz.prog 152 #[v] w fun r w' => ∃ v', r = .returned v' ∧ w'.ownsRow B 3 1 v' (Lib.compact xs).length ((Lib.compact xs).map (Value.int .i64)) ∧ Below B w0 w' := by
  by_cases hv : v = .slice none 0 0
  · subst hv
    have hx : xs = [] := by
      rcases h.2 with ⟨_, h0⟩ | ⟨g, cap, cur, e, _⟩
      · have := h.1
        exact List.length_eq_zero_iff.1 h0
      · cases e
    subst hx
    have C := Any.slices_Compact_int_empty sc.laysNm220 none 0 w
    refine C.mono ?_
    rintro r w' ⟨rfl, rfl⟩
    exact ⟨_, rfl, h, hb⟩
  · obtain ⟨g, cap, rfl, hg, hlt, hc, hm, hn, hH⟩ := Lib.holds_of_ownsRow h hv
    have hcl : (Lib.compact xs).length ≤ xs.length := by
      unfold Lib.compact Lib.compactUpTo
      rw [List.length_map]
      exact Nat.le_trans (List.length_filter_le _ _) (by simp)
    have C := Any.slices_Compact_int sc.laysNm220 g 0 cap xs w hH (by omega) hc
    refine C.mono ?_
    rintro r w' ⟨rfl, q, rfl⟩
    refine ⟨_, rfl, ?_, Lib.below_putRow hb hg⟩
    have h2 := Lib.ownsRow_putRow (q := q) (k := (Lib.compact xs).length) (ys := Lib.compact xs ++ List.replicate (xs.length - (Lib.compact xs).length) 0) h (by rw [List.length_append, List.length_replicate]; omega) hcl
    rw [List.take_left'] at h2
    · exact h2
    · rfl
theorem kindL_next (l : List ByteArray) (k : ByteArray) : kindL (l ++ [k]) = kindL l ++ (if k.size = 18 then [bt k 9] else []) := by
  unfold kindL
  rw [List.filterMap_append]
  congr 1
  by_cases h : k.size = 18 <;> simp [List.filterMap, h]
theorem kindL_len (l : List ByteArray) : (kindL l).length ≤ l.length := List.length_filterMap_le _ _
theorem first9 (sp : Int) : (keyT sp 1 0).extract 0 9 = spaceT sp := by
  rw [tqb.key_is, kind_is, app_assoc]
  have := app_left (spaceT sp) (Go.Proofs.YtpcllegjnbeppaaGreat.nb.str [1] ++ Go.Proofs.YtpcllegjnbeppaaGreat.nb.str (Go.Proofs.YtpcllegjnbeppaaGreat.tpa.lowB 0 8))
  rw [spaceT_size] at this
  exact this
set_option maxRecDepth 100000 in
set_option maxHeartbeats 6400000 in
theorem kindsC {B g bn bd : Nat} {pv : Value} {s : S} {w : World} (sp age : Int) (h : Sr B g bn bd pv s w) (hs : okI sp) :
    Calls Tryz.prog 124 #[.agg #[.pointer (some ⟨g, 0, none⟩), .int .i64 sp, .int .i64 age]] w fun r w' => ∃ v, r = .returned v ∧ w'.ownsRow w.heap.size 3 1 v (kindsS s sp).length ((kindsS s sp).map (Value.int .i64)) ∧ Below w.heap.size w w' := by
  obtain ⟨W, HW⟩ : ∃ W, Hid (w.alloc (.cells #[.pointer (some ⟨g, 0, none⟩), .int .i64 sp, .int .i64 age] 137) = W) := ⟨_, rfl⟩
  have bW : Below w.heap.size w W := by rw [← HW.out]; exact new1 _ _
  have hz : W.heap[w.heap.size]? = some (.cells #[.pointer (some ⟨g, 0, none⟩), .int .i64 sp, .int .i64 age] 137 (0, 0)) := by rw [← HW.out]; exact heap_alloc_new w _
  have hzl := (Array.getElem?_eq_some_iff.1 hz).1
  have BW : Hid (Below w.heap.size w W) := bW
  have z1 := cell_of_row _ _ 1 _ _ _ hz
  have HK0 : Hid (∀ w1, Below W.heap.size W w1 → w1.cell? ⟨w.heap.size, 0, none⟩ = some (.pointer (some ⟨g, 0, none⟩))) := fun w1 b => cell_of_row _ _ 0 _ _ _ ((b.block _ hzl).trans hz)
  have CK : Hid (Calls _ _ _ _ _) := keyC sp 1 0 W hs.1 hs.2 (by omega) (by omega) (by omega) (by omega)
  have CS : Hid (∀ w1, Below W.heap.size W w1 → Calls Tryz.prog 67 #[.pointer (some ⟨g, 0, none⟩), .string ((keyT sp 1 0).extract 0 9)] w1 fun e w' => ∃ v, e = .returned v ∧ w'.ownsRow w1.heap.size 9 1 v (keysS s (spaceT sp)).length ((keysS s (spaceT sp)).map Value.string) ∧ Below w1.heap.size w1 w') := fun w1 b => by
    rw [first9]
    exact keysC (spaceT sp) (sr_later h (over bW b))
  have hkz : (keyT sp 1 0).size = 18 := keyT_size _ _ _
  have hko := keys_ok h.ok (spaceT sp)
  unfold kindsS
  obtain ⟨ks, HKS⟩ : ∃ ks, Hid (keysS s (spaceT sp) = ks) := ⟨_, rfl⟩
  rw [HKS.out] at CS hko ⊢
  have hlen := hko.1
  have HZ : Hid _ := hko.2
  generalize keyT sp 1 0 = K0 at *
  obtain ⟨i3, hi, hz0, hz1', hz2⟩ := info_parts info3
  have HIN : Hid (_ ∧ _ ∧ _ ∧ _) := ⟨hi, hz0, hz1', hz2⟩
  have hK18 : (9 : Int) ≤ K0.size := by omega
  have hK18n : 9 ≤ K0.size := by omega
  clear h hz hzl bW hko hi hz0 hz1' hz2
  go_enter Tryz.func124, Tryz.ntmps124
  go_upto_region 1 with fail
  rw [HW.out]
  go_upto_region 3 with (first | (go_at_call 58; refine CK.out.mono ?_; rintro _ w1 ⟨rfl, b1⟩; have B1 : Hid (Below W.heap.size W w1) := b1; clear b1) | go_in)
  have S1 : Hid (w1.cell? ⟨w.heap.size, 0, none⟩ = some (.pointer (some ⟨g, 0, none⟩))) := HK0.out w1 B1.out
  have C3 : Hid (Calls _ _ _ _ _) := CS.out w1.drew (to_drew B1.out)
  have HDN : Hid (∀ w2, Below w1.drew.heap.size w1.drew w2 → Below W.heap.size W w2 ∧ w2.cell? ⟨w.heap.size, 0, none⟩ = some (.pointer (some ⟨g, 0, none⟩))) := fun w2 b => ⟨over B1.out (of_drew b), HK0.out w2 (over B1.out (of_drew b))⟩
  go_region_held3 (fun w3 => w3.cell? ⟨w.heap.size, 0, none⟩ = some (.pointer (some ⟨g, 0, none⟩))) (first | exact S1.out | exact S2.out) (first | (go_at_call 67; refine C3.out.mono ?_; rintro _ w2 ⟨v, rfl, hrow, b2⟩; have S2 : Hid _ := (HDN.out w2 b2).2; have B2 : Hid (Below W.heap.size W w2) := (HDN.out w2 b2).1; have HRD : Hid (ReadsT w2 v ks) := own_readsT hrow; have hvf := own_formS hrow; clear b2 hrow; obtain ⟨ka, kc, rfl⟩ := hvf))
  all_goals (
    go_wp2_with fail
    go_loopw [5, 20] (fun lv iv wr => ∃ i : Nat, i ≤ ks.length ∧ iv = .int .i64 i ∧ Hid (wr.ownsRow w2.heap.size 3 1 lv (kindL (ks.take i)).length ((kindL (ks.take i)).map (Value.int .i64)) ∧ Below w2.heap.size w2 wr)) (fun _ iv _ => (ks.length - intOf iv).toNat)
    case atStart => exact ⟨0, by omega, rfl, World.ownsRow_nil _ _ _ _, Below.refl _ _⟩
    case round =>
      obtain ⟨i, hil, rfl, HH⟩ := hrel
      obtain ⟨ma, mc, hform⟩ := own_formS HH.out.1
      subst hform
      by_cases hlt : i < ks.length
      · have g1 : (i : Int) < ks.length := by omega
        obtain ⟨x, hx⟩ : ∃ x, ks[i]? = some x := ⟨_, List.getElem?_eq_getElem hlt⟩
        have hxs : x.size ≤ 64 := HZ.out x (List.mem_of_getElem? hx)
        obtain ⟨la', lc', e0, _, hcl⟩ := HRD.out.later HH.out.2
        injection e0 with e1 e2 e3
        subst e1
        rcases hcl with h0 | ⟨lb, lo', rfl, hcl⟩
        · omega
        have cx : wr.cell? ⟨lb, lo' + i, none⟩ = some (.string x) := by
          have h := hcl i hlt
          rw [List.getD, hx] at h
          exact h
        have HTK : Hid _ := take_next hx
        have HNX : Hid _ := kindL_next (ks.take i) x
        have hnl : (kindL (ks.take i)).length ≤ i := by have h1 := kindL_len (ks.take i); rw [List.length_take] at h1; omega
        clear hcl e2 e3 hx
        by_cases h18 : x.size = 18
        · have h18' : (x.size : Int) = 18 := by omega
          have hbt := get_bt x
          have h9 : (9 : Int) < x.size := by omega
          have h9n : 9 < x.size := by omega
          have hb0 := bt_nonneg x 9
          have hb1 := bt_le x 9
          obtain ⟨y, HY⟩ : ∃ y, Hid (bt x 9 = y) := ⟨_, rfl⟩
          have hy0 : 0 ≤ y := by rw [← HY.out]; exact hb0
          have hy1 : y ≤ 255 := by rw [← HY.out]; exact hb1
          have hwy : IntKind.i64.wrap y = y := by rw [IntKind.wrap_i64]; omega
          have O5 : Hid ((wr.alloc (.cells #[.int .i64 y] 3)).ownsRow w2.heap.size 3 1 (.slice ma (kindL (ks.take i)).length mc) (kindL (ks.take i)).length ((kindL (ks.take i)).map (Value.int .i64))) := HH.out.1.alloc _
          have hsz5 : w2.heap.size ≤ wr.heap.size := HH.out.2.size
          have B5 : Hid (Below w2.heap.size w2 (wr.alloc (.cells #[.int .i64 y] 3))) := HH.out.2.alloc HH.out.2.size _
          have HNX2 : Hid (kindL (ks.take i ++ [x]) = kindL (ks.take i) ++ [y]) := by show _ = _; rw [HNX.out, if_pos h18, HY.out]
          have hby : bt x 9 = y := HY.out
          clear hb0 hb1 h18 HNX
          go_wp2_with (first | (at_builtin; (refine wpList_append_own _ rfl _ _ 63 rfl w2.heap.size 3 i3 (.int .i64 0) 1 8 Tryz.underlying63 HIN.out.1 HIN.out.2.1 HIN.out.2.2.1 HIN.out.2.2.2 rfl (by decide) _ (kindL (ks.take i)).length _ rfl O5.out ⟨wr.heap.size, 0, none⟩ 1 1 [.int .i64 y] rfl rfl (new_num _ _ _) (one_num _) (by unfold maxLen; omega) (by omega) (by simp; omega) ?_; intro v' w7 ho hg hnn; have HO3 : Hid (World.ownsRow _ _ _ _ _ _ _) := ho; have HG3 : Hid (World.grownBy _ _ _) := hg; clear ho hg hnn)) | go_in)
          go_roundw
          case rel =>
            refine ⟨i + 1, by omega, by go_num, ?_, ?_⟩
            · rw [HTK.out, HNX2.out, List.map_append, List.length_append]
              exact HO3.out
            · exact B5.out.grown HG3.out (by simp; omega) (fun j hj => (O5.out.lt _ hj).1)
          case measure => simp [intOf]; omega
        · have h18' : ((x.size : Int) == 18) = false := by rw [beq_eq_false_iff_ne]; omega
          have HNX2 : Hid (kindL (ks.take i ++ [x]) = kindL (ks.take i)) := by show _ = _; rw [HNX.out, if_neg h18, List.append_nil]
          clear h18 HNX
          go_wp2
          go_roundw
          case rel => exact ⟨i + 1, by omega, by go_num, by rw [HTK.out, HNX2.out]; exact HH.out.1, HH.out.2⟩
          case measure => simp [intOf]; omega
      · have g1 : ¬ (i : Int) < ks.length := by omega
        obtain rfl : i = ks.length := by omega
        have HF : Hid (ks.take ks.length = ks) := List.take_length
        rw [HF.out] at HH
        have CC : Hid (Calls _ _ _ _ _) := compactC w2.heap.size _ (kindL ks) w2 wr HH.out.1 HH.out.2 (by have := kindL_len ks; omega)
        have hsz6 := (over BW.out B2.out).size
        have HUP : Hid (∀ v' w', w'.ownsRow w2.heap.size 3 1 v' (Lib.compact (kindL ks)).length ((Lib.compact (kindL ks)).map (Value.int .i64)) → Below w2.heap.size w2 w' → w'.ownsRow w.heap.size 3 1 v' (Lib.compact (kindL ks)).length ((Lib.compact (kindL ks)).map (Value.int .i64)) ∧ Below w.heap.size w w') := fun v' w' ho hb => ⟨⟨ho.1, by
          rcases ho.2 with h | ⟨g', cap, cur, e, hb', hrest⟩
          · exact .inl h
          · exact .inr ⟨g', cap, cur, e, Nat.le_trans hsz6 hb', hrest⟩⟩, over (over BW.out B2.out) hb⟩
        go_wp2_with (first | (go_at_call 152; refine CC.out.mono ?_; rintro _ w9 ⟨v9, rfl, h9, b9⟩; have H9 : Hid _ := HUP.out v9 w9 h9 b9; clear h9 b9) | go_in)
        go_ret
        exact ⟨_, rfl, H9.out.1, H9.out.2⟩)
end Go.Proofs.YtpcllegjnbeppaaGreat.hg

namespace Go.Proofs.YtpcllegjnbeppaaGreat.hh
open Go.RowKit Go.PlainAid Go.Maps Go.Shelf
open Go.Proofs.YtpcllegjnbeppaaGreat.kp Go.Proofs.YtpcllegjnbeppaaGreat.ka Go.Proofs.YtpcllegjnbeppaaGreat.ya Go.Proofs.YtpcllegjnbeppaaGreat.yb Go.Proofs.YtpcllegjnbeppaaGreat.yc Go.Proofs.YtpcllegjnbeppaaGreat.yd Go.Proofs.YtpcllegjnbeppaaGreat.ye Go.Proofs.YtpcllegjnbeppaaGreat.yf Go.Proofs.YtpcllegjnbeppaaGreat.yg Go.Proofs.YtpcllegjnbeppaaGreat.yi Go.Proofs.YtpcllegjnbeppaaGreat.yj Go.Proofs.YtpcllegjnbeppaaGreat.yk Go.Proofs.YtpcllegjnbeppaaGreat.yl Go.Proofs.YtpcllegjnbeppaaGreat.ym
open Go.Proofs.YtpcllegjnbeppaaGreat.tqa Go.Proofs.YtpcllegjnbeppaaGreat.tba Go.Proofs.YtpcllegjnbeppaaGreat.tbb Go.Proofs.YtpcllegjnbeppaaGreat.tbc Go.Proofs.YtpcllegjnbeppaaGreat.tbd Go.Proofs.YtpcllegjnbeppaaGreat.tbe
open Go.Proofs.YtpcllegjnbeppaaGreat.tbf (okI kind_is)
open Go.Proofs.YtpcllegjnbeppaaGreat.cp (own_later)
open Go.Proofs.YtpcllegjnbeppaaGreat.tqb (over keyC keyNo spaceT spaceT_size)
open Go.Proofs.YtpcllegjnbeppaaGreat.ea Go.Proofs.YtpcllegjnbeppaaGreat.eb Go.Proofs.YtpcllegjnbeppaaGreat.ec Go.Proofs.YtpcllegjnbeppaaGreat.ed Go.Proofs.YtpcllegjnbeppaaGreat.ee Go.Proofs.YtpcllegjnbeppaaGreat.ef Go.Proofs.YtpcllegjnbeppaaGreat.eg Go.Proofs.YtpcllegjnbeppaaGreat.eh Go.Proofs.YtpcllegjnbeppaaGreat.ei Go.Proofs.YtpcllegjnbeppaaGreat.ej Go.Proofs.YtpcllegjnbeppaaGreat.ek Go.Proofs.YtpcllegjnbeppaaGreat.el Go.Proofs.YtpcllegjnbeppaaGreat.ha Go.Proofs.YtpcllegjnbeppaaGreat.hb Go.Proofs.YtpcllegjnbeppaaGreat.hc Go.Proofs.YtpcllegjnbeppaaGreat.hd Go.Proofs.YtpcllegjnbeppaaGreat.hf Go.Proofs.YtpcllegjnbeppaaGreat.hg
set_option linter.unusedVariables false
set_option linter.unusedSimpArgs false
def Lt (s s' : S) : Prop := s'.dur = s.dur ∧ s'.pend.length + (now s').length ≤ s.pend.length + (now s).length
theorem Lt.refl (s : S) : Lt s s := ⟨rfl, Nat.le_refl _⟩
theorem Lt.trans {a b c : S} (x : Lt a b) (y : Lt b c) : Lt a c := ⟨y.1.trans x.1, Nat.le_trans y.2 x.2⟩
theorem cut_lt (s : S) (k : ByteArray) : Lt s (cutS s k).2 := by
  unfold cutS
  split
  · exact Lt.refl _
  · split
    · rename_i h
      refine ⟨by rw [dur_spend]; rfl, ?_⟩
      rw [pend_spend, now_spend, now_add]
      have h1 := del_less h
      have h2 : doW (now s) ⟨true, k, ByteArray.empty⟩ = del k (now s) := rfl
      rw [h2]
      simp only [addW, List.length_append, List.length_singleton]
      omega
    · exact Lt.refl _
theorem bdrop_lt (s : S) (sp k n : Int) : Lt s (bdropS s sp k n).2 := by
  unfold bdropS
  split
  · exact cut_lt _ _
  · exact Lt.refl _
-- a list of numbers in memory, kept beside
theorem readsN_kp {A : Nat → Prop} {w w' : World} {B n : Nat} {v : Value} {xs : List Int} (o : w.ownsRow B 3 1 v n (xs.map (Value.int .i64))) (k : Kp A w w') (hn : ∀ j, B ≤ j → ¬ A j) : w'.ownsRow B 3 1 v n (xs.map (Value.int .i64)) :=
  own_kp o k (fun j hj => hn j (o.lt _ hj.symm).1)
theorem own_at {w : World} {B n : Nat} {a : Option Addr} {c : Nat} {xs : List Int} (o : w.ownsRow B 3 1 (.slice a n c) n (xs.map (Value.int .i64))) (i : Nat) (x : Int) (hx : xs[i]? = some x) : ∃ b, a = some ⟨b, 0, none⟩ ∧ w.cell? ⟨b, i, none⟩ = some (.int .i64 x) := by
  have hi := (List.getElem?_eq_some_iff.1 hx).1
  have hl : xs.length = n := by simpa using o.1
  rcases o.2 with ⟨_, h0⟩ | ⟨g, cap, cur, e, hb, hh, h1, h2, h3, h4⟩
  · omega
  · injection e with e1 _ _
    refine ⟨g, e1, ?_⟩
    rw [cell_of_row _ _ _ _ _ _ hh]
    have h5 := congrArg (·[i]?) h4
    simp only [List.getElem?_take, List.getElem?_map, Nat.mul_one] at h5
    rw [if_pos (by omega), Array.getElem?_toList] at h5
    rw [h5, hx]; rfl
set_option maxRecDepth 100000 in
set_option maxHeartbeats 12800000 in
theorem purgeC {B g bn bd L : Nat} {pv : Value} {s : S} {w : World} (sp age : Int) (la : Option Addr) (n lc : Nat) (h : Sr B g bn bd pv s w) (hs : okI sp) (hL : w.cell? ⟨L, 0, none⟩ = some (.slice la n lc)) (hLF : ¬ Fr g bn bd pv L) (hl : 2 * (s.dur.length + s.pend.length) + 1 < 3518437208883) (hB : B ≤ w.heap.size) :
    Calls Tryz.prog 97 #[.agg #[.pointer (some ⟨g, 0, none⟩), .int .i64 sp, .int .i64 age], .func (.func 96) #[] #[.pointer (some ⟨L, 0, none⟩)]] w fun r w' => r = .returned (.int .i64 (purgeS s sp n).1) ∧ Rn B g bn bd pv (purgeS s sp n).2 w w' := by
  obtain ⟨W, HW⟩ : ∃ W, Hid (w.alloc (.cells #[.pointer (some ⟨g, 0, none⟩), .int .i64 sp, .int .i64 age] 137) = W) := ⟨_, rfl⟩
  have bW : Below w.heap.size w W := by rw [← HW.out]; exact new1 _ _
  have hz : W.heap[w.heap.size]? = some (.cells #[.pointer (some ⟨g, 0, none⟩), .int .i64 sp, .int .i64 age] 137 (0, 0)) := by rw [← HW.out]; exact heap_alloc_new w _
  have hzl := (Array.getElem?_eq_some_iff.1 hz).1
  have BW : Hid (Below w.heap.size w W) := bW
  have z0 := cell_of_row _ _ 0 _ _ _ hz
  have z1 := cell_of_row _ _ 1 _ _ _ hz
  have z2 := cell_of_row _ _ 2 _ _ _ hz
  have CK : Hid (Calls _ _ _ _ _) := kindsC sp age (sr_later h bW) hs
  have hln0 : (now s).length ≤ s.dur.length + s.pend.length := len_do _ _
  have HFR : Hid (∀ j, w.heap.size ≤ j → ¬ Fr g bn bd pv j) := fun j hj e => by have := (sr_in h j e).1; omega
  have HKB : Hid (∀ w1 w2, Below W.heap.size W w1 → Kp (Fr g bn bd pv) w1 w2 → w2.cell? ⟨w.heap.size, 0, none⟩ = some (.pointer (some ⟨g, 0, none⟩)) ∧ w2.cell? ⟨w.heap.size, 1, none⟩ = some (.int .i64 sp) ∧ w2.cell? ⟨L, 0, none⟩ = some (.slice la n lc)) := fun w1 w2 b k => by
    have e1 := (b.block _ hzl).trans hz
    have e2 := (k.block _ (Array.getElem?_eq_some_iff.1 e1).1 (HFR.out _ (Nat.le_refl _))).trans e1
    have c1 : w1.cell? ⟨L, 0, none⟩ = some (.slice la n lc) := ((over bW b).cell (World.block_lt_of_cell? _ _ hL)).trans hL
    exact ⟨cell_of_row _ _ 0 _ _ _ e2, cell_of_row _ _ 1 _ _ _ e2, k.cell c1 hLF⟩
  have HS : Hid (∀ w1, Below W.heap.size W w1 → Sr B g bn bd pv s w1) := fun w1 b => sr_later h (over bW b)
  unfold purgeS
  obtain ⟨ks, HKS⟩ : ∃ ks, Hid (kindsS s sp = ks) := ⟨_, rfl⟩
  have hkl : ks.length ≤ 3518437208883 := by
    rw [← HKS.out]
    unfold kindsS
    have h1 := kindL_len (keysS s (spaceT sp))
    have h2 := (keys_ok h.ok (spaceT sp)).1
    have h3 : (Lib.compact (kindL (keysS s (spaceT sp)))).length ≤ (kindL (keysS s (spaceT sp))).length := by
      unfold Lib.compact Lib.compactUpTo
      rw [List.length_map]
      exact Nat.le_trans (List.length_filter_le _ _) (by simp)
    omega
  rw [HKS.out] at CK ⊢
  obtain ⟨R, HR⟩ : ∃ R, Hid (purgeL sp n ks s = R) := ⟨_, rfl⟩
  rw [HR.out]
  have HLB : Hid (2 * (s.dur.length + s.pend.length) + 1 < 3518437208883 ∧ (now s).length ≤ s.dur.length + s.pend.length ∧ B ≤ w.heap.size) := ⟨hl, hln0, hB⟩
  have CNM : Hid (∀ s' pv' (w1 : World) (k : Int), Sr B g bn bd pv' s' w1 → Calls _ _ _ _ _) := fun s' pv' w1 k h' => numbersC sp k h' hs.2
  have CDR : Hid (∀ s' pv' (w1 : World) (k x : Int), Sr B g bn bd pv' s' w1 → x ≤ 9223372036854775807 → Lt s s' → B ≤ w1.heap.size → Calls _ _ _ _ _) := fun s' pv' w1 k x h' hx hlt hB' => bdropC sp k x h' hs.2 hx (by have := HLB.out; have := hlt.2; rw [hlt.1]; omega) hB'
  have CBL : Hid (∀ (w1 : World) (k x : Int), w1.cell? ⟨L, 0, none⟩ = some (.slice la n lc) → Calls _ _ _ _ _) := fun w1 k x hc => belongsC L la n lc k x w1 hc
  have hkli : (ks.length : Int) ≤ 3518437208883 := by omega
  clear h hz hzl bW hl hln0 hB hL
  go_enter Tryz.func97, Tryz.ntmps97
  go_upto_region 1 with fail
  rw [HW.out]
  go_wp2_with (first | (go_at_call 124; refine CK.out.mono ?_; rintro _ w1 ⟨kv, rfl, hrow, b1⟩; have B1 : Hid (Below W.heap.size W w1) := b1; have O1 : Hid (w1.ownsRow W.heap.size 3 1 kv ks.length (ks.map (Value.int .i64))) := hrow; have hvf := own_formS hrow; clear b1 hrow; obtain ⟨ka, kc, rfl⟩ := hvf) | go_in)
  have hWw : w.heap.size ≤ W.heap.size := BW.out.size
  go_loopw [13] (fun iv wr => ∃ (i : Nat) (s' : S), i ≤ ks.length ∧ iv = .int .i64 i ∧ Hid (purgeL sp n (ks.drop i) s' = R ∧ Lt s s') ∧ Hid (Rn B g bn bd pv s' w1 wr)) (fun iv _ => (ks.length - intOf iv).toNat)
  case atStart => exact ⟨0, s, by omega, rfl, ⟨HR.out, Lt.refl s⟩, Rn.refl (HS.out w1 B1.out)⟩
  case round =>
    obtain ⟨i, s', hil, rfl, HW1, HH⟩ := hrel
    obtain ⟨wo, hwo⟩ : ∃ wo, wo = wr := ⟨_, rfl⟩
    subst hwo
    by_cases hlt : i < ks.length
    · have g1 : (i : Int) < ks.length := by omega
      obtain ⟨k, hkx⟩ : ∃ k, ks[i]? = some k := ⟨_, List.getElem?_eq_getElem hlt⟩
      obtain ⟨pv', h', k', n'⟩ := HH.out
      have OK1 : Hid (wo.ownsRow W.heap.size 3 1 (.slice ka ks.length kc) ks.length (ks.map (Value.int .i64))) := readsN_kp O1.out k' (fun j hj => HFR.out j (by omega))
      obtain ⟨kb, rfl, ck⟩ := own_at OK1.out i k hkx
      obtain ⟨y0, y1, yL⟩ := HKB.out w1 wo B1.out k'
      have HS' : Hid (Sr B g bn bd pv' s' wo) := h'
      have C1 : Hid (Calls _ _ _ _ _) := CNM.out s' pv' wo k h'
      have HD : Hid _ := drop_next hkx
      obtain ⟨xs, HXS⟩ : ∃ xs, Hid (numbersS s' sp k = xs) := ⟨_, rfl⟩
      have hxl : xs.length ≤ 3518437208883 := by
        rw [← HXS.out]
        unfold numbersS
        split
        · have h1 := nums_len (keysS s' (Go.Proofs.YtpcllegjnbeppaaGreat.tqb.kindT sp k))
          have h2 := (keys_ok h'.ok (Go.Proofs.YtpcllegjnbeppaaGreat.tqb.kindT sp k)).1
          omega
        · simp
      have HXB : Hid (∀ x ∈ xs, x ≤ 9223372036854775807) := fun x hx => by
        rw [← HXS.out] at hx
        unfold numbersS at hx
        split at hx
        · unfold nums at hx
          obtain ⟨key, _, h2⟩ := List.mem_filterMap.1 hx
          unfold numOf at h2
          split at h2
          · have g2 := nx8_rng (r3 key)
            have b2 := sg_rng (kL key) g2.1 g2.2
            rw [← Option.some.inj h2]; exact b2.2
          · cases h2
        · cases hx
      rw [HXS.out] at C1
      obtain ⟨D, HDD⟩ : ∃ D, Hid (dropL sp k n xs s' = D) := ⟨_, rfl⟩
      have HPP : Hid ((if D.1 = 0 then purgeL sp n (ks.drop (i + 1)) D.2 else D) = R) := by
        have e := HW1.out.1
        rw [HD.out, purgeL, HXS.out, HDD.out] at e
        exact e
      have hxli : (xs.length : Int) ≤ 3518437208883 := by omega
      have hBwr : B ≤ wo.heap.size := by have := HLB.out.2.2; have := BW.out.size; have := B1.out.size; have := k'.size; omega
      have HFR2 : Hid (∀ j, wo.heap.size ≤ j → ¬ Fr g bn bd pv' j) := fun j hj e => by have := (sr_in HS'.out j e).1; omega
      clear hkx h' k' n' HD HXS
      go_wp2_with (first | (go_at_call 30; refine C1.out.mono ?_; rintro _ w2 ⟨nv, rfl, hrow, b2⟩; have B2 : Hid (Below wo.heap.size wo w2) := b2; have O2 : Hid (w2.ownsRow wo.heap.size 3 1 nv xs.length (xs.map (Value.int .i64))) := hrow; have hvf := own_formS hrow; clear b2 hrow; obtain ⟨na, nc, rfl⟩ := hvf) | go_in)
      have hw2s : wo.heap.size ≤ w2.heap.size := B2.out.size
      have CELLS : Hid (∀ w9, Kp (Fr g bn bd pv') w2 w9 → w9.cell? ⟨w.heap.size, 0, none⟩ = some (.pointer (some ⟨g, 0, none⟩)) ∧ w9.cell? ⟨w.heap.size, 1, none⟩ = some (.int .i64 sp) ∧ w9.cell? ⟨L, 0, none⟩ = some (.slice la n lc)) := fun w9 k9 => by
        obtain ⟨p1, h1, k1, n1⟩ := HH.out
        have e := sr_pv h1 HS'.out
        subst e
        have kk : Kp (Fr g bn bd pv) w1 w9 := by
          refine ⟨k9.os.trans (B2.out.os.trans k1.os), k9.tape.trans (B2.out.tape.trans k1.tape), k9.output.trans (B2.out.output.trans k1.output), Nat.le_trans k1.size (Nat.le_trans B2.out.size k9.size), fun j hj hn => ?_⟩
          refine (k9.block j (by have := k1.size; omega) (fun hf => ?_)).trans ((B2.out.block j (by have := k1.size; omega)).trans (k1.block j hj hn))
          rcases hf with hf | hf | hf | hf
          · exact hn (.inl hf)
          · exact hn (.inr (.inl hf))
          · exact hn (.inr (.inr (.inl hf)))
          · rcases n1 j hf with h2 | h2
            · exact hn (.inr (.inr (.inr h2)))
            · omega
        exact HKB.out w1 w9 B1.out kk
      have DONE : Hid (∀ s'' w9, Rn B g bn bd pv' s'' w2 w9 → Rn B g bn bd pv s'' w1 w9) := fun s'' w9 r => HH.out.trans (fun p h1 => by
        have e := sr_pv h1 HS'.out
        subst e
        exact rn_pre B2.out r)
      go_loopw [24] (fun jv w9 => ∃ (j : Nat) (s'' : S), j ≤ xs.length ∧ jv = .int .i64 j ∧ Hid (dropL sp k n (xs.drop j) s'' = D ∧ Lt s s'') ∧ Hid (Rn B g bn bd pv' s'' w2 w9)) (fun jv _ => (xs.length - intOf jv).toNat)
      case atStart => exact ⟨0, s', by omega, rfl, ⟨HDD.out, HW1.out.2⟩, Rn.refl (sr_later HS'.out B2.out)⟩
      case round =>
        obtain ⟨j, s'', hjl, rfl, HF, HR2⟩ := hrel
        by_cases hjt : j < xs.length
        · have g2 : (j : Int) < xs.length := by omega
          obtain ⟨x, hxx⟩ : ∃ x, xs[j]? = some x := ⟨_, List.getElem?_eq_getElem hjt⟩
          obtain ⟨pv'', h'', k'', n''⟩ := HR2.out
          have OK2 : Hid (wr.ownsRow wo.heap.size 3 1 (.slice na xs.length nc) xs.length (xs.map (Value.int .i64))) := readsN_kp O2.out k'' (fun q hq => HFR2.out q hq)
          obtain ⟨nb', rfl, cx⟩ := own_at OK2.out j x hxx
          obtain ⟨x0, x1, xL⟩ := CELLS.out wr k''
          have CB : Hid (Calls _ _ _ _ _) := CBL.out wr k x xL
          have HD2 : Hid _ := drop_next hxx
          have hxb : x ≤ 9223372036854775807 := HXB.out x (List.mem_of_getElem? hxx)
          by_cases hbel : k = 1 ∧ x < n
          · rw [decide_eq_true hbel] at CB
            have HF2 : Hid (dropL sp k n (xs.drop (j + 1)) s'' = D) := by
              have e := HF.out.1
              rw [HD2.out, dropL, if_pos hbel] at e
              exact e
            clear hxx h'' k'' n'' hbel HD2
            go_wp2_with (first | (go_at_call 96; refine CB.out.mono ?_; rintro _ _ ⟨rfl, hw⟩; rw [hw]; clear hw) | go_in)
            go_roundw
            case rel => exact ⟨j + 1, s'', by omega, by go_num, ⟨HF2.out, HF.out.2⟩, HR2.out⟩
            case measure => simp [intOf]; omega
          · rw [decide_eq_false hbel] at CB
            have hB2 : B ≤ wr.heap.size := by have := k''.size; omega
            have CD : Hid (Calls _ _ _ _ _) := CDR.out s'' pv'' wr k x h'' hxb HF.out.2 hB2
            have HS2 : Hid (Sr B g bn bd pv'' s'' wr) := h''
            have HLT : Hid _ := bdrop_lt s'' sp k x
            obtain ⟨rs, HRS⟩ : ∃ rs, Hid (bdropS s'' sp k x = rs) := ⟨_, rfl⟩
            rw [HRS.out] at CD HLT
            have HF2 : Hid ((if rs.1 = 0 then dropL sp k n (xs.drop (j + 1)) rs.2 else rs) = D) := by
              have e := HF.out.1
              rw [HD2.out, dropL, if_neg hbel, HRS.out] at e
              exact e
            obtain ⟨re, rs2⟩ := rs
            clear hxx h'' k'' n'' hbel HD2 HRS
            by_cases hre : re = 0
            · subst hre
              have HF3 : Hid (dropL sp k n (xs.drop (j + 1)) rs2 = D) := by have e := HF2.out; rw [if_pos rfl] at e; exact e
              go_wp2_with (first | (go_at_call 96; refine CB.out.mono ?_; rintro _ _ ⟨rfl, hw⟩; rw [hw]; clear hw) | (go_at_call 28; refine CD.out.mono ?_; rintro _ w5 ⟨rfl, r5⟩; have R5 : Hid (Rn B g bn bd pv'' rs2 wr w5) := r5; clear r5) | go_in)
              go_roundw
              case rel =>
                refine ⟨j + 1, rs2, by omega, by go_num, ⟨HF3.out, HF.out.2.trans HLT.out⟩, ?_⟩
                exact HR2.out.trans (fun p h1 => by
                  have e := sr_pv h1 HS2.out
                  subst e
                  exact R5.out)
              case measure => simp [intOf]; omega
            · have hre' : (re != 0) = true := by rw [bne_iff_ne]; exact hre
              have HDR : Hid (R = (re, rs2)) := by
                have e := HF2.out
                rw [if_neg hre] at e
                have e2 := HPP.out
                rw [← e, if_neg hre] at e2
                exact e2.symm
              clear hre
              go_wp2_with (first | (go_at_call 96; refine CB.out.mono ?_; rintro _ _ ⟨rfl, hw⟩; rw [hw]; clear hw) | (go_at_call 28; refine CD.out.mono ?_; rintro _ w5 ⟨rfl, r5⟩; have R5 : Hid (Rn B g bn bd pv'' rs2 wr w5) := r5; clear r5) | go_in)
              go_ret
              have hRR : R = (re, rs2) := HDR.out
              subst hRR
              refine ⟨rfl, rn_pre (over BW.out B1.out) (DONE.out _ _ (HR2.out.trans (fun p h1 => by
                  have e := sr_pv h1 HS2.out
                  subst e
                  exact R5.out)))⟩
        · have g2 : ¬ (j : Int) < xs.length := by omega
          obtain rfl : j = xs.length := by omega
          have HDE : Hid (D = (0, s'')) := by
            have e := HF.out.1
            rw [List.drop_length] at e
            exact e.symm
          have HP2 : Hid (purgeL sp n (ks.drop (i + 1)) s'' = R) := by
            have e := HPP.out
            rw [HDE.out, if_pos rfl] at e
            exact e
          go_wp2
          go_roundw
          case rel => exact ⟨i + 1, s'', by omega, by go_num, ⟨HP2.out, HF.out.2⟩, DONE.out _ _ HR2.out⟩
          case measure => simp [intOf]; omega
    · have g1 : ¬ (i : Int) < ks.length := by omega
      obtain rfl : i = ks.length := by omega
      have HRR : Hid (R = (0, s')) := by
        have e := HW1.out.1
        rw [List.drop_length] at e
        exact e.symm
      go_wp2
      go_ret
      have hRR : R = (0, s') := HRR.out
      subst hRR
      exact ⟨rfl, rn_pre (over BW.out B1.out) HH.out⟩
end Go.Proofs.YtpcllegjnbeppaaGreat.hh

namespace Go.Proofs.YtpcllegjnbeppaaGreat.hi
open Go.RowKit Go.PlainAid Go.Maps Go.Shelf
open Go.Proofs.YtpcllegjnbeppaaGreat.kp Go.Proofs.YtpcllegjnbeppaaGreat.ka Go.Proofs.YtpcllegjnbeppaaGreat.ya Go.Proofs.YtpcllegjnbeppaaGreat.yb Go.Proofs.YtpcllegjnbeppaaGreat.yc Go.Proofs.YtpcllegjnbeppaaGreat.yd Go.Proofs.YtpcllegjnbeppaaGreat.ye Go.Proofs.YtpcllegjnbeppaaGreat.yf Go.Proofs.YtpcllegjnbeppaaGreat.yg Go.Proofs.YtpcllegjnbeppaaGreat.yi Go.Proofs.YtpcllegjnbeppaaGreat.yj Go.Proofs.YtpcllegjnbeppaaGreat.yk Go.Proofs.YtpcllegjnbeppaaGreat.yl Go.Proofs.YtpcllegjnbeppaaGreat.ym
open Go.Proofs.YtpcllegjnbeppaaGreat.tqa Go.Proofs.YtpcllegjnbeppaaGreat.tba Go.Proofs.YtpcllegjnbeppaaGreat.tbb Go.Proofs.YtpcllegjnbeppaaGreat.tbc Go.Proofs.YtpcllegjnbeppaaGreat.tbd Go.Proofs.YtpcllegjnbeppaaGreat.tbe
open Go.Proofs.YtpcllegjnbeppaaGreat.tbf (okI kind_is)
open Go.Proofs.YtpcllegjnbeppaaGreat.cp (own_later)
open Go.Proofs.YtpcllegjnbeppaaGreat.tqb (over keyC keyNo spaceT spaceT_size)
open Go.Proofs.YtpcllegjnbeppaaGreat.ea Go.Proofs.YtpcllegjnbeppaaGreat.eb Go.Proofs.YtpcllegjnbeppaaGreat.ec Go.Proofs.YtpcllegjnbeppaaGreat.ed Go.Proofs.YtpcllegjnbeppaaGreat.ee Go.Proofs.YtpcllegjnbeppaaGreat.ef Go.Proofs.YtpcllegjnbeppaaGreat.eg Go.Proofs.YtpcllegjnbeppaaGreat.eh Go.Proofs.YtpcllegjnbeppaaGreat.ei Go.Proofs.YtpcllegjnbeppaaGreat.ej Go.Proofs.YtpcllegjnbeppaaGreat.ek Go.Proofs.YtpcllegjnbeppaaGreat.el Go.Proofs.YtpcllegjnbeppaaGreat.ha Go.Proofs.YtpcllegjnbeppaaGreat.hb Go.Proofs.YtpcllegjnbeppaaGreat.hc Go.Proofs.YtpcllegjnbeppaaGreat.hd Go.Proofs.YtpcllegjnbeppaaGreat.hf Go.Proofs.YtpcllegjnbeppaaGreat.hg Go.Proofs.YtpcllegjnbeppaaGreat.hh
set_option linter.unusedVariables false
set_option linter.unusedSimpArgs false
theorem st_sz {s : S} {sp : Int} {l : List ByteArray} (h : IsSt s sp l) : ∀ x ∈ l, x.size ≤ 4096 := by
  intro x hx
  obtain ⟨i, hi, e⟩ := List.mem_iff_getElem.1 hx
  have h1 := h.has i hi
  rw [List.getElem?_eq_getElem hi, e] at h1
  unfold lf at h1
  split at h1
  · rename_i h2
    rw [← Option.some.inj h1]; exact h2.2
  · cases h1
set_option maxRecDepth 100000 in
set_option maxHeartbeats 6400000 in
theorem OpenYes {g bn bd : Nat} {pv : Value} {s s' : S} {w : World} (a b c d e f : Int) (sp least : Int) (l : List ByteArray) (h : Sr 0 g bn bd pv s w) (hs : okI sp) (hopt : a = 1 ∧ 1 ≤ b ∧ b ≤ 32) (ho : s.off = false) (hst : IsSt s sp l) (hl : l.length < 1099511627776) (hle : least ≤ l.length) (hp : purgeS s sp l.length = (0, s')) (hln : 2 * (s.dur.length + s.pend.length) + 1 < 3518437208883) :
    Calls Tryz.prog 54 #[.pointer (some ⟨g, 0, none⟩), .agg #[.int .i64 a, .int .i64 b, .int .i64 c, .int .i64 d, .int .i64 e, .int .i64 f], .int .i64 sp, .int .i64 least] w fun r w' => ∃ ge, r = .returned (.tuple #[.pointer (some ⟨ge, 0, none⟩), .int .i64 0]) ∧ Born ge g bn bd pv s' ⟨sp, s.age, b, l, 0⟩ w w' := by
  obtain ⟨W, HW⟩ : ∃ W, Hid (w.alloc (.cells #[.int .i64 a, .int .i64 b, .int .i64 c, .int .i64 d, .int .i64 e, .int .i64 f] 36) = W) := ⟨_, rfl⟩
  have bW : Below w.heap.size w W := by rw [← HW.out]; exact new1 _ _
  have hz : W.heap[w.heap.size]? = some (.cells #[.int .i64 a, .int .i64 b, .int .i64 c, .int .i64 d, .int .i64 e, .int .i64 f] 36 (0, 0)) := by rw [← HW.out]; exact heap_alloc_new w _
  have hzl := (Array.getElem?_eq_some_iff.1 hz).1
  have BW : Hid (Below w.heap.size w W) := bW
  have HFR : Hid (∀ j, w.heap.size ≤ j → ¬ Fr g bn bd pv j) := fun j hj e => by have := (sr_in h j e).1; omega
  have CO : Hid (Calls _ _ _ _ _) := optsC a b c d e f W
  have hok : okO a b = true := decide_eq_true hopt
  rw [hok] at CO
  have CK : Hid (∀ w1, Below W.heap.size W w1 → Calls _ _ _ _ _) := fun w1 bb => kopenYes sp (sr_later h (over bW bb)) hs ho
  have CS : Hid (∀ w1, Below W.heap.size W w1 → Calls _ _ _ _ _) := fun w1 bb => standingC sp s.age l (sr_later h (over bW bb)) hs hst hl
  have CP : Hid (∀ w1 L (la : Option Addr) (lc : Nat), Below W.heap.size W w1 → w1.cell? ⟨L, 0, none⟩ = some (.slice la l.length lc) → w.heap.size ≤ L → Calls Tryz.prog 97 #[.agg #[.pointer (some ⟨g, 0, none⟩), .int .i64 sp, .int .i64 s.age], .func (.func 96) #[] #[.pointer (some ⟨L, 0, none⟩)]] w1 fun r w' => r = .returned (.int .i64 0) ∧ Rn 0 g bn bd pv s' w1 w') := fun w1 L la lc bb hc hL => by
    have C := purgeC sp s.age la l.length lc (sr_later h (over bW bb)) hs hc (HFR.out L hL) hln (Nat.zero_le _)
    rw [hp] at C
    exact C
  have z0 := cell_of_row _ _ 0 _ _ _ hz
  have z1 := cell_of_row _ _ 1 _ _ _ hz
  have z2 := cell_of_row _ _ 2 _ _ _ hz
  have z3 := cell_of_row _ _ 3 _ _ _ hz
  have z4 := cell_of_row _ _ 4 _ _ _ hz
  have z5 := cell_of_row _ _ 5 _ _ _ hz
  have HZ : Hid (∀ w1 w2, Below W.heap.size W w1 → Kp (Fr g bn bd pv) w1 w2 → w2.cell? ⟨w.heap.size, 1, none⟩ = some (.int .i64 b)) := fun w1 w2 bb k => by
    have e1 := (bb.block _ hzl).trans hz
    have e2 := (k.block _ (Array.getElem?_eq_some_iff.1 e1).1 (HFR.out _ (Nat.le_refl _))).trans e1
    exact cell_of_row _ _ 1 _ _ _ e2
  have HOK : Hid (okI sp ∧ (1 ≤ b ∧ b ≤ 32) ∧ l.length ≤ 1099511627776 ∧ ∀ x ∈ l, x.size ≤ 4096) := ⟨hs, hopt.2, by omega, st_sz hst⟩
  have HFIN : Hid (∀ w1 w2 lv, Below W.heap.size W w1 → w1.ownsRow W.heap.size 9 1 lv l.length (l.map Value.string) → Rn 0 g bn bd pv s' w1 w2 → Born w2.heap.size g bn bd pv s' ⟨sp, s.age, b, l, 0⟩ w (w2.alloc (.cells #[.pointer (some ⟨g, 0, none⟩), .int .i64 sp, .int .i64 s.age, .int .i64 b, lv, .int .i64 0] 141))) := fun w1 w2 lv b1 hlr r => by
    obtain ⟨p, h2, k2, n2⟩ := r
    have bx := new1 w2 (.cells #[.pointer (some ⟨g, 0, none⟩), .int .i64 sp, .int .i64 s.age, .int .i64 b, lv, .int .i64 0] 141)
    have b0 := over bW b1
    have hlr2 := own_kp hlr k2 (fun j hj => HFR.out j (by have := (hlr.lt _ hj.symm).1; have := bW.size; omega))
    refine ⟨p, lv, ⟨sr_later h2 bx, heap_alloc_new w2 _, own_zero (own_later hlr2 bx), ⟨HOK.out.1, HOK.out.2.1, HOK.out.2.2.1, HOK.out.2.2.2⟩⟩, ((Kp.of_below b0).trans k2).trans (Kp.of_below bx), ?_⟩
    rintro j ((hj | hj | hj | hj) | hj | hj)
    · exact .inl (.inl hj)
    · exact .inl (.inr (.inl hj))
    · exact .inl (.inr (.inr (.inl hj)))
    · rcases n2 j hj with h3 | h3
      · exact .inl (.inr (.inr (.inr h3)))
      · exact .inr (Nat.le_trans b0.size h3)
    · right
      have := b0.size; have := k2.size
      omega
    · right
      have := (hlr.lt _ hj.symm).1; have := bW.size; omega
  have HRK : Hid (∀ w1 w2, Rn 0 g bn bd pv s' w1 w2 → Kp (Fr g bn bd pv) w1 w2) := fun w1 w2 r => by
    obtain ⟨p, h2, k2, n2⟩ := r
    exact k2
  have HFRS : Hid (∀ w1, Below W.heap.size W w1 → ∀ j, w1.heap.size ≤ j → ¬ Fr g bn bd pv j) := fun w1 bb j hj => HFR.out j (by have := (over bW bb).size; omega)
  have hlt : ¬ (l.length : Int) < least := by omega
  clear hl
  generalize s.age = ag at *
  clear h hz hzl bW hok hp hln hopt hst hle
  go_enter Tryz.func54, Tryz.ntmps54
  go_upto_region 1 with fail
  rw [HW.out]
  go_upto_region 3 with (first | (go_at_call 90; refine CO.out.mono ?_; rintro _ w1 ⟨rfl, b1⟩; have B1 : Hid (Below W.heap.size W w1) := b1; clear b1) | go_in)
  have C4 : Hid (Calls _ _ _ _ _) := CK.out w1 B1.out
  go_upto_region 6 with (first | (go_at_call 94; refine C4.out.mono ?_; rintro _ w2 ⟨rfl, b2⟩; have B2 : Hid (Below W.heap.size W w2) := over B1.out b2; clear b2) | go_in)
  obtain ⟨V, HV⟩ : ∃ V, Hid (w2.alloc (.cells #[.pointer (some ⟨g, 0, none⟩), .int .i64 sp, .int .i64 (ag : Int)] 137) = V) := ⟨_, rfl⟩
  have bV : Below w2.heap.size w2 V := by rw [← HV.out]; exact new1 _ _
  have hv : V.heap[w2.heap.size]? = some (.cells #[.pointer (some ⟨g, 0, none⟩), .int .i64 sp, .int .i64 (ag : Int)] 137 (0, 0)) := by rw [← HV.out]; exact heap_alloc_new w2 _
  have hvl := (Array.getElem?_eq_some_iff.1 hv).1
  have BV : Hid (Below W.heap.size W V) := over B2.out bV
  have hnF : ¬ Fr g bn bd pv w2.heap.size := HFRS.out w2 B2.out _ (Nat.le_refl _)
  have HVC : Hid (∀ w3 w4, Below V.heap.size V w3 → Kp (Fr g bn bd pv) w3 w4 → w4.cell? ⟨w2.heap.size, 0, none⟩ = some (.pointer (some ⟨g, 0, none⟩)) ∧ w4.cell? ⟨w2.heap.size, 1, none⟩ = some (.int .i64 sp) ∧ w4.cell? ⟨w2.heap.size, 2, none⟩ = some (.int .i64 (ag : Int))) := fun w3 w4 bb k => by
    have e1 := (bb.block _ hvl).trans hv
    have e2 := (k.block _ (Array.getElem?_eq_some_iff.1 e1).1 hnF).trans e1
    exact ⟨cell_of_row _ _ 0 _ _ _ e2, cell_of_row _ _ 1 _ _ _ e2, cell_of_row _ _ 2 _ _ _ e2⟩
  rw [HV.out]
  have v0 := cell_of_row _ _ 0 _ _ _ hv
  have v1 := cell_of_row _ _ 1 _ _ _ hv
  have v2 := cell_of_row _ _ 2 _ _ _ hv
  have C5 : Hid (Calls _ _ _ _ _) := CS.out V BV.out
  clear hv hvl bV hnF
  go_upto_region 7 with (first | (go_at_call 95; refine C5.out.mono ?_; rintro _ w3 ⟨lv, rfl, hrow, b3⟩; have B3 : Hid (Below V.heap.size V w3) := b3; have O3 : Hid (w3.ownsRow V.heap.size 9 1 lv l.length (l.map Value.string)) := hrow; have hvf := own_formS hrow; clear b3 hrow; obtain ⟨la, lc, rfl⟩ := hvf) | go_in)
  obtain ⟨U, HU⟩ : ∃ U, Hid (w3.alloc (.cells #[.slice la l.length lc] 91) = U) := ⟨_, rfl⟩
  have bU : Below w3.heap.size w3 U := by rw [← HU.out]; exact new1 _ _
  have hu : U.heap[w3.heap.size]? = some (.cells #[.slice la l.length lc] 91 (0, 0)) := by rw [← HU.out]; exact heap_alloc_new w3 _
  have hul := (Array.getElem?_eq_some_iff.1 hu).1
  have BU : Hid (Below V.heap.size V U) := over B3.out bU
  have u0 := cell_of_row _ _ 0 _ _ _ hu
  have hw3 : w.heap.size ≤ w3.heap.size := (over BW.out (over BV.out B3.out)).size
  have C6 : Hid (Calls _ _ _ _ _) := CP.out U w3.heap.size la lc (over BV.out BU.out) u0 hw3
  have HUC : Hid (∀ w4, Kp (Fr g bn bd pv) U w4 → w4.cell? ⟨w3.heap.size, 0, none⟩ = some (.slice la l.length lc)) := fun w4 k => by
    exact cell_of_row _ _ 0 _ _ _ ((k.block _ hul (HFRS.out w3 (over BV.out B3.out) _ (Nat.le_refl _))).trans hu)
  have O4 : Hid (U.ownsRow W.heap.size 9 1 (.slice la l.length lc) l.length (l.map Value.string)) := by
    have o := own_later O3.out bU
    refine ⟨o.1, ?_⟩
    rcases o.2 with h | ⟨g', cap, cur, e, hb, hr⟩
    · exact .inl h
    · exact .inr ⟨g', cap, cur, e, Nat.le_trans BV.out.size hb, hr⟩
  rw [HU.out]
  obtain ⟨p0, p1, p2⟩ := HVC.out U U BU.out (Kp.refl _ _)
  clear hu hul bU
  go_upto_region 13 with (first | (go_at_call 97; refine C6.out.mono ?_; rintro _ w4 ⟨rfl, r4⟩; have R4 : Hid (Rn 0 g bn bd pv s' U w4) := r4; clear r4) | go_in)
  obtain ⟨q0, q1, q2⟩ := HVC.out U w4 BU.out (HRK.out _ _ R4.out)
  have q3 := HUC.out w4 (HRK.out _ _ R4.out)
  have q4 := HZ.out U w4 (over BV.out BU.out) (HRK.out _ _ R4.out)
  have HF : Hid _ := HFIN.out U w4 (.slice la l.length lc) (over BV.out BU.out) O4.out R4.out
  go_wp2
  go_ret2
  exact ⟨_, rfl, HF.out⟩
end Go.Proofs.YtpcllegjnbeppaaGreat.hi
