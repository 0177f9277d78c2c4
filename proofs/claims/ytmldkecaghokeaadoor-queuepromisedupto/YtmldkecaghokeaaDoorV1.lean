import Derived.Test.YtmldkecaghokeaaDoorY9
import Derived.Test.YtmldkecaghokeaaDoorG2
import Derived.Test.YtmldkecaghokeaaDoorMq
import Derived.Test.YtmldkecaghokeaaDoorNg
import Derived.Test.YtmldkecaghokeaaDoorG3
import Derived.Deep.RegionHeldLaw
import Derived.Deep.RegionHeld3
import Derived.Deep.RegionWith
import Derived.Deep.QuietTactic
import Derived.BigQuiet
namespace Go.Proofs.YtmldkecaghokeaaDoor.u1
open Go.RowKit Go.PlainAid Go.Shelf
open Go.Proofs.YtmldkecaghokeaaDoor.pj Go.Proofs.YtmldkecaghokeaaDoor.rf Go.Proofs.YtmldkecaghokeaaDoor.mo Go.Proofs.YtmldkecaghokeaaDoor.ta Go.Proofs.YtmldkecaghokeaaDoor.tb Go.Proofs.YtmldkecaghokeaaDoor.tc Go.Proofs.YtmldkecaghokeaaDoor.tj Go.Proofs.YtmldkecaghokeaaDoor.wa Go.Proofs.YtmldkecaghokeaaDoor.vc Go.Proofs.YtmldkecaghokeaaDoor.vd Go.Proofs.YtmldkecaghokeaaDoor.yc Go.Proofs.YtmldkecaghokeaaDoor.si
set_option linter.unusedVariables false
set_option maxRecDepth 4000

theorem below_dr {B : Nat} {a w : World} (h : Below B a w) : Below B a w.drew := ⟨h.os, h.tape, h.output, h.size, h.block⟩
abbrev PowT (w : World) : Prop := Lib.TabIs Tryd.prog w "internal/strconv.uint64pow10" .u64 Lib.pow10Tab
theorem PowT.down {w w' : World} (h : PowT w) (hb : Below w.heap.size w w') : PowT w' := Lib.TabBelow.here ((Lib.tabBelow_of_tabIs h).on hb)
theorem dec1 (n : Int) (h : I64 n) (w : World) (hw : PowT w) : Calls Tryd.prog 19 #[.int .i64 n] w fun e w' => e = .returned (.string (decS n)) ∧ Below w.heap.size w w' := by
  have H : Hid (Calls Tryd.prog 35 #[.int .i64 n] w fun e w' => e = .returned (.string (decS n)) ∧ Below w.heap.size w w') := by
    have := Any.strconv_Itoa laysM171 n h.1 h.2 w hw
    refine this.mono ?_
    rintro e w' ⟨rfl, k, os, rfl⟩
    exact ⟨by rw [itoa_dec], wb.below_grow w k os⟩
  go_enter Tryd.func19, Tryd.ntmps19
  go_wp2_with fail
  refine H.out.mono ?_
  rintro e w1 ⟨rfl, hb⟩
  have B : Hid (Below w.heap.size w w1) := hb
  clear hb
  go_wp2
  go_ret
  exact ⟨rfl, B.out⟩
-- the text of a promise
def prB : ByteArray := ⟨#[112, 114, 111, 109, 105, 115, 101]⟩
def prN : ByteArray := ⟨#[112, 114, 111, 109, 105, 115, 101, 10]⟩
def n1B : ByteArray := ⟨#[10]⟩
def tX (h : ByteArray) (t d : Int) : ByteArray := prN ++ str (hexL (bs h)) ++ n1B ++ decS t ++ n1B ++ decS d ++ n1B
theorem sg16 : ∀ i : Fin 16, sg A16 (i.val : Int) ≠ 10 := by decide +kernel
theorem nl_hex (h : ByteArray) : nl (str (hexL (bs h))) = false := by
  cases e : nl (str (hexL (bs h)))
  · rfl
  · rw [nl_iff, bs_str _ (hexL_in _ (bs_in h))] at e
    unfold hexL at e
    obtain ⟨v, hv, hs⟩ := List.mem_map.1 e
    have hi := nibs_in (bs h) (bs_in h) v hv
    have := sg16 ⟨v.toNat, by omega⟩
    rw [show ((v.toNat : Nat) : Int) = v by omega] at this
    exact absurd hs this
theorem nl_dec (n : Int) : nl (decS n) = false := by
  cases e : nl (decS n)
  · rfl
  · rw [nl_iff, bs_dec] at e
    unfold decI at e
    split at e
    · rcases List.mem_cons.1 e with e | e
      · omega
      · have := dg_in _ _ e; omega
    · have := dg_in _ _ e; omega
theorem nl_pr : nl prB = false := by decide +kernel
theorem join4 (a b c d : ByteArray) (ha : nl a = false) (hb : nl b = false) (hc : nl c = false) (hd : nl d = false) :
    joinV [a, b, c, d] = .tuple #[.string (a ++ n1B ++ b ++ n1B ++ c ++ n1B ++ d ++ n1B), .int .i64 0] := by
  unfold joinV
  rw [if_pos (by simp [ha, hb, hc, hd])]
  congr 4
  apply ByteArray.ext
  simp only [ByteArray.data_append, n1B]
  apply Array.ext'
  simp [joinL]
theorem join_pr (h : ByteArray) (t d : Int) : joinV [prB, str (hexL (bs h)), decS t, decS d] = .tuple #[.string (tX h t d), .int .i64 0] := by
  rw [join4 _ _ _ _ nl_pr (nl_hex h) (nl_dec t) (nl_dec d)]
  have e : prB ++ n1B = prN := by apply bs_inj; decide +kernel
  rw [e]
  rfl
theorem tX_size (h : ByteArray) (t d : Int) (ht : I64 t) (hd : I64 d) : (tX h t d).size ≤ 2 * h.size + 60 := by
  have e1 := dec_size t ht
  have e2 := dec_size d hd
  have e3 : prN.size = 8 := rfl
  have e4 : n1B.size = 1 := rfl
  unfold tX
  simp only [ByteArray.size_append]
  rw [str_size, hexL_length, bs_length]
  omega
theorem box4 (w w' : World) (a b c d : Value) (t : TypeId) (h : Below (w.heap.size + 1) (w.alloc (.cells #[a, b, c, d] t)) w') : w'.cell? ⟨w.heap.size, 0, none⟩ = some a ∧ w'.cell? ⟨w.heap.size, 1, none⟩ = some b ∧ w'.cell? ⟨w.heap.size, 2, none⟩ = some c ∧ w'.cell? ⟨w.heap.size, 3, none⟩ = some d := by
  refine ⟨?_, ?_, ?_, ?_⟩
  · rw [h.cell (p := ⟨w.heap.size, 0, none⟩) (Nat.lt_succ_self _), World.cell?_alloc_at _ _ _ _ rfl]; rfl
  · rw [h.cell (p := ⟨w.heap.size, 1, none⟩) (Nat.lt_succ_self _), World.cell?_alloc_at _ _ _ _ rfl]; rfl
  · rw [h.cell (p := ⟨w.heap.size, 2, none⟩) (Nat.lt_succ_self _), World.cell?_alloc_at _ _ _ _ rfl]; rfl
  · rw [h.cell (p := ⟨w.heap.size, 3, none⟩) (Nat.lt_succ_self _), World.cell?_alloc_at _ _ _ _ rfl]; rfl
theorem reads4 (w : World) (a b c d : ByteArray) (t : TypeId) : Reads (w.alloc (.cells #[.string a, .string b, .string c, .string d] t)) (.slice (some ⟨w.heap.size, 0, none⟩) 4 4) [a, b, c, d] := by
  refine ⟨_, 4, rfl, .inr ⟨w.heap.size, 0, rfl, fun i hi => ?_⟩⟩
  rw [Nat.zero_add, World.cell?_alloc_at _ _ _ _ rfl]
  match i, hi with
  | 0, _ => rfl
  | 1, _ => rfl
  | 2, _ => rfl
  | 3, _ => rfl
theorem tk4 (a b c d : ByteArray) : tk [a, b, c, d] 4 = a.size + b.size + c.size + d.size := by
  show 0 + a.size + b.size + c.size + d.size = _
  omega
set_option maxHeartbeats 3200000 in
theorem codeC (sec h m : ByteArray) (t d : Int) (zs : sec.size ≤ 1048576) (zh : h.size ≤ 1048576) (ht : I64 t) (hd : I64 d) (w : World) (T : Hid (Tab w)) (P : Hid (PowT w)) :
    Calls Tryd.prog 9 #[.string sec, .agg #[.string h, .int .i64 t, .int .i64 d, .string m]] w fun e w' => e = .returned (.string (macF sec (tX h t d))) ∧ Below w.heap.size w w' := by
  have C1 : Hid (∀ w, Calls _ _ _ _ _) := fun w => hex h (by omega) w
  have C2 : Hid (∀ w, PowT w → Calls _ _ _ _ _) := fun w => dec1 t ht w
  have C3 : Hid (∀ w, PowT w → Calls _ _ _ _ _) := fun w => dec1 d hd w
  have zt := tX_size h t d ht hd
  have HJ := join_pr h t d
  have zx : (str (hexL (bs h))).size = 2 * h.size := by rw [str_size, hexL_length, bs_length]
  have e1 := dec_size t ht
  have e2 := dec_size d hd
  have e3 : prB.size = 7 := rfl
  have C4 : Hid (∀ X v, Reads X v [prB, str (hexL (bs h)), decS t, decS d] → Calls Tryd.prog 17 #[v] X fun e w' => e = .returned (.tuple #[.string (tX h t d), .int .i64 0]) ∧ Below X.heap.size X w') := fun X v hr => by
    rw [← HJ]
    exact join v _ X hr (by show tk _ 4 + 4 ≤ _; rw [tk4, zx]; omega)
  have C5 : Hid (∀ X, Tab X → Calls _ _ _ _ _) := fun X TX => nd.macSum sec (tX h t d) X (by omega) (by omega) TX
  generalize tX h t d = tx at *
  generalize macF sec tx = M at *
  obtain ⟨hx, HHX⟩ : ∃ hx, Hid (str (hexL (bs h)) = hx) := ⟨_, rfl⟩
  obtain ⟨dt, HDT⟩ : ∃ dt, Hid (decS t = dt) := ⟨_, rfl⟩
  obtain ⟨dd, HDD⟩ : ∃ dd, Hid (decS d = dd) := ⟨_, rfl⟩
  rw [HHX.out] at C1 C4
  rw [HDT.out] at C2 C4
  rw [HDD.out] at C3 C4
  have BA : Hid (Below w.heap.size w (w.alloc (.cells #[.string h, .int .i64 t, .int .i64 d, .string m] 23))) := (Below.refl _ _).alloc (Nat.le_refl _) _
  obtain ⟨W, HW⟩ : ∃ W, Hid (w.alloc (.cells #[.string h, .int .i64 t, .int .i64 d, .string m] 23) = W) := ⟨_, rfl⟩
  have SX : Hid (∀ w', Below (w.heap.size + 1) W w' → w'.cell? ⟨w.heap.size, 0, none⟩ = some (.string h) ∧ w'.cell? ⟨w.heap.size, 1, none⟩ = some (.int .i64 t) ∧ w'.cell? ⟨w.heap.size, 2, none⟩ = some (.int .i64 d) ∧ w'.cell? ⟨w.heap.size, 3, none⟩ = some (.string m)) := by
    rw [← HW.out]; exact fun w' h => box4 w w' _ _ _ _ _ h
  have zW : W.heap.size = w.heap.size + 1 := by rw [← HW.out]; simp
  have B0 : Hid (Below (w.heap.size + 1) W W.drew) := below_dr (Below.refl _ _)
  rw [HW.out] at BA
  have PP : Hid (∀ w', Below (w.heap.size + 1) W w' → PowT w') := fun w' h => P.out.down (BA.out.trans (h.mono (by omega)))
  have TT : Hid (∀ w', Below (w.heap.size + 1) W w' → Tab w') := fun w' h => T.out.down (BA.out.trans (h.mono (by omega)))
  clear zt HJ zx e1 e2 e3 HHX HDT HDD
  go_enter Tryd.func9, Tryd.ntmps9
  go_wp2_with fail
  rw [HW.out]
  go_region_held_law (fun w' => w'.cell? ⟨w.heap.size, 0, none⟩ = some (.string h) ∧ w'.cell? ⟨w.heap.size, 1, none⟩ = some (.int .i64 t) ∧ w'.cell? ⟨w.heap.size, 2, none⟩ = some (.int .i64 d)) (first | exact ⟨(SX.out _ B0.out).1, (SX.out _ B0.out).2.1, (SX.out _ B0.out).2.2.1⟩ | exact ⟨(SX.out _ B1.out).1, (SX.out _ B1.out).2.1, (SX.out _ B1.out).2.2.1⟩ | exact ⟨(SX.out _ B2.out).1, (SX.out _ B2.out).2.1, (SX.out _ B2.out).2.2.1⟩ | exact ⟨(SX.out _ B3.out).1, (SX.out _ B3.out).2.1, (SX.out _ B3.out).2.2.1⟩ | exact ⟨(SX.out _ B3A.out).1, (SX.out _ B3A.out).2.1, (SX.out _ B3A.out).2.2.1⟩ | exact ⟨(SX.out _ B4.out).1, (SX.out _ B4.out).2.1, (SX.out _ B4.out).2.2.1⟩) ((first | (go_at_call 18; (with_reducible refine (C1.out _).mono ?_); rintro _ w1 ⟨rfl, k1⟩; have B1 : Hid (Below (w.heap.size + 1) W w1) := (B0.out.trans (k1.mono (by show _ ≤ W.heap.size; omega))); clear k1) | (go_at_call 19; (with_reducible refine (C2.out _ (PP.out _ B1.out)).mono ?_); rintro _ w2 ⟨rfl, k2⟩; have B2 : Hid (Below (w.heap.size + 1) W w2) := (B1.out.trans (k2.mono (by have := B1.out.size; omega))); clear k2) | (go_at_call 19; (with_reducible refine (C3.out _ (PP.out _ B2.out)).mono ?_); rintro _ w3 ⟨rfl, k3⟩; have B3 : Hid (Below (w.heap.size + 1) W w3) := (B2.out.trans (k3.mono (by have := B2.out.size; omega))); have B3A : Hid (Below (w.heap.size + 1) W (w3.alloc (.cells #[.string prB, .string hx, .string dt, .string dd] 9))) := (B3.out.alloc (by have := B3.out.size; omega) _); clear k3) | (go_at_call 17; (refine (C4.out _ _ (reads4 w3 prB hx dt dd 9)).mono ?_); rintro _ w4 ⟨rfl, k4⟩; have B4 : Hid (Below (w.heap.size + 1) W w4) := (B3A.out.trans (k4.mono (by have := B3A.out.size; omega))); clear k4)))
  all_goals (
    go_wp2_with fail
    refine (C5.out _ (TT.out _ B4.out)).mono ?_
    rintro e w5 ⟨rfl, hb5⟩
    have B5 : Hid (Below w.heap.size w w5) := BA.out.trans ((B4.out.trans (hb5.mono (by have := B4.out.size; omega))).mono (by omega))
    clear hb5
    go_wp2
    go_ret
    exact ⟨rfl, B5.out⟩)
end Go.Proofs.YtmldkecaghokeaaDoor.u1
