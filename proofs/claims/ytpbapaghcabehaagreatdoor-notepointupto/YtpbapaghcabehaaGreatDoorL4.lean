import Derived.Test.YtpbapaghcabehaaGreatDoorM3
import Derived.Test.YtpbapaghcabehaaGreatDoorL3
import Derived.Deep.DeepCutAuto
import Derived.Deep.RegionHeld3
import Derived.Deep.RegionHeldLaw
import Derived.Deep.AppendLies
namespace Go.Proofs.YtpbapaghcabehaaGreatDoor.z7
open Go.RowKit Go.PlainAid
open Go.Proofs.YtpbapaghcabehaaGreatDoor.ta Go.Proofs.YtpbapaghcabehaaGreatDoor.tb Go.Proofs.YtpbapaghcabehaaGreatDoor.tc Go.Proofs.YtpbapaghcabehaaGreatDoor.tj Go.Proofs.YtpbapaghcabehaaGreatDoor.tk Go.Proofs.YtpbapaghcabehaaGreatDoor.va Go.Proofs.YtpbapaghcabehaaGreatDoor.vc Go.Proofs.YtpbapaghcabehaaGreatDoor.vd Go.Proofs.YtpbapaghcabehaaGreatDoor.wa Go.Proofs.YtpbapaghcabehaaGreatDoor.wb Go.Proofs.YtpbapaghcabehaaGreatDoor.n1 Go.Proofs.YtpbapaghcabehaaGreatDoor.n3 Go.Proofs.YtpbapaghcabehaaGreatDoor.o3 Go.Proofs.YtpbapaghcabehaaGreatDoor.q2 Go.Proofs.YtpbapaghcabehaaGreatDoor.t3 Go.Proofs.YtpbapaghcabehaaGreatDoor.t5 Go.Proofs.YtpbapaghcabehaaGreatDoor.yc Go.Proofs.YtpbapaghcabehaaGreatDoor.u1 Go.Proofs.YtpbapaghcabehaaGreatDoor.w1 Go.Proofs.YtpbapaghcabehaaGreatDoor.w2 Go.Proofs.YtpbapaghcabehaaGreatDoor.w3 Go.Proofs.YtpbapaghcabehaaGreatDoor.yta Go.Proofs.YtpbapaghcabehaaGreatDoor.ytb Go.Proofs.YtpbapaghcabehaaGreatDoor.ytc Go.Proofs.YtpbapaghcabehaaGreatDoor.ytd Go.Proofs.YtpbapaghcabehaaGreatDoor.z1
open Go.Proofs.YtpbapaghcabehaaGreatDoor.uc (pr)
set_option linter.unusedVariables false
set_option maxRecDepth 4000

-- printable bytes
def asc (s : ByteArray) : Prop := ∀ x ∈ bs s, 32 ≤ x ∧ x < 128
theorem asc_no10 {s : ByteArray} (h : asc s) : no10 s := by
  intro j hj e
  have := h (bt s j) (by rw [← bs_get s j hj]; exact List.getElem_mem _)
  omega
theorem rd_asc (s : ByteArray) (h : ∀ x ∈ bs s, (32 ≤ x ∨ x = 10) ∧ x < 128) : readable s = true := by
  refine rd_ascii s (fun k hk => ?_) s.size 0
  have h1 := h (bt s k) (by rw [← bs_get s k hk]; exact List.getElem_mem _)
  have h2 := get_bt s k hk
  omega
theorem asc_nm {o : ByteArray} (h : nm o = true) : asc o := by
  intro x hx
  have h1 := (nm_all h).2 x hx
  omega
theorem asc_dec (n : Int) : asc (decS n) := by
  intro x hx
  rw [bs_dec] at hx
  unfold decI at hx
  split at hx
  · rcases List.mem_cons.1 hx with h | h
    · omega
    · have := dg_in _ x h; omega
  · have := dg_in _ x hx; omega
theorem sg_asc : ∀ v : Nat, v < 64 → 32 ≤ sg A64 v ∧ sg A64 v < 128 := by decide +kernel
theorem asc_b64 (r : ByteArray) : asc (str (b64L (bs r))) := by
  intro x hx
  rw [bs_str _ (b64L_in _ (bs_in r))] at hx
  unfold b64L at hx
  rcases List.mem_append.1 hx with hx | hx
  · obtain ⟨v, hv, rfl⟩ := List.mem_map.1 (List.mem_of_mem_take hx)
    obtain ⟨h0, h1⟩ := sixes_full (bs r) (bs_in r) v hv
    obtain ⟨k, rfl⟩ := Int.eq_ofNat_of_zero_le h0
    exact sg_asc k (by omega)
  · rw [List.eq_of_mem_replicate hx]; decide
theorem nol_nm {o : ByteArray} (h : nm o = true) : nolB o = false := by
  unfold nolB
  rw [nl_nm h, rd_asc o (fun x hx => by have := asc_nm h x hx; omega)]
  have : ¬ o.size = 0 := by
    have h1 := h
    unfold nm at h1
    simp only [Bool.and_eq_true, decide_eq_true_eq] at h1
    exact h1.1.1
  rw [decide_eq_false this]
  rfl
theorem fl_bytes : ∀ (ls : List ByteArray), (∀ l ∈ ls, asc l) → ∀ x ∈ bs (flN ls), (32 ≤ x ∨ x = 10) ∧ x < 128
  | [], _, x, hx => by
    have : bs (flN []) = [] := rfl
    rw [this] at hx
    cases hx
  | l :: ls, h, x, hx => by
    rw [flN, bs_app, bs_app, bs_nl] at hx
    rcases List.mem_append.1 hx with hx | hx
    · rcases List.mem_append.1 hx with hx | hx
      · have := h l (by simp) x hx; omega
      · have := List.mem_singleton.1 hx; omega
    · exact fl_bytes ls (fun y hy => h y (by simp [hy])) x hx
theorem goes_txt (o : ByteArray) (n : Int) (r : ByteArray) (ext : List ByteArray) (ho : nm o = true) (he : ∀ x ∈ ext, nm x = true) : goesB (txt o n r ext) = true := by
  unfold goesB
  have h1 : ∀ l ∈ [o, decS n, str (b64L (bs r))] ++ ext, asc l := by
    intro l hl
    simp only [List.cons_append, List.nil_append, List.mem_cons] at hl
    rcases hl with rfl | rfl | rfl | hl
    · exact asc_nm ho
    · exact asc_dec n
    · exact asc_b64 r
    · exact asc_nm (he l hl)
  rw [show readable (txt o n r ext) = true from rd_asc _ (fl_bytes _ h1), Bool.and_true]
  rcases flN_ends ([o, decS n, str (b64L (bs r))] ++ ext) with h | h
  · exfalso
    have h2 := fl_cons o (decS n :: str (b64L (bs r)) :: ext)
    simp only [List.cons_append, List.nil_append] at h
    omega
  · exact h
-- a checkpoint out of any
theorem ok_txt (o : ByteArray) (n : Int) (r : ByteArray) (ext : List ByteArray) (ho : nm o = true) (h0 : 0 ≤ n) (h1 : n ≤ 4611686018427387904) (hr : 1 ≤ r.size) (hr2 : r.size ≤ 32) (he : ∀ x ∈ ext, nm x = true) : txE o n r ext = 0 := by
  unfold txE
  rw [if_neg (by rw [ho]; decide), if_neg (by omega), if_neg (by omega), if_neg]
  intro h
  rw [List.any_eq_true] at h
  obtain ⟨x, hx, h2⟩ := h
  rw [nol_nm (he x hx)] at h2
  cases h2
theorem txt_size (o : ByteArray) (n : Int) (r : ByteArray) (ext : List ByteArray) (hI : I64 n) (ho : nm o = true) (hr2 : r.size ≤ 32) (he : ∀ x ∈ ext, nm x = true) (hl : ext.length ≤ 20) : (txt o n r ext).size ≤ 20001 := by
  have h1 := fl_cons o (decS n :: str (b64L (bs r)) :: ext)
  have h2 := fl_cons (decS n) (str (b64L (bs r)) :: ext)
  have h3 := fl_cons (str (b64L (bs r))) ext
  have h4 := dec_size n hI
  have h5 : (str (b64L (bs r))).size ≤ 44 := by rw [str_size, b64L_length, bs_length]; omega
  have h6 := nm_size ho
  have h7 : (flN ext).size ≤ 65 * ext.length := by
    clear h1 h2 h3 hl
    induction ext with
    | nil => exact Nat.le_refl _
    | cons x l ih =>
      have := ih (fun y hy => he y (by simp [hy]))
      have g := nm_size (he x (by simp))
      rw [fl_cons, List.length_cons]
      omega
  show (flN (o :: decS n :: str (b64L (bs r)) :: ext)).size ≤ _
  omega
theorem ext_tk (ext : List ByteArray) (he : ∀ x ∈ ext, nm x = true) (hl : ext.length ≤ 20) : tk ext ext.length + ext.length ≤ 1400 := by
  rw [tk_fl]
  have : (flN ext).size ≤ 65 * ext.length := by
    clear hl
    induction ext with
    | nil => exact Nat.le_refl _
    | cons x l ih =>
      have := ih (fun y hy => he y (by simp [hy]))
      have g := nm_size (he x (by simp))
      rw [fl_cons, List.length_cons]
      omega
  omega
theorem and62 (x : Int) : ∃ q : Nat, q ≤ 4611686018427387903 ∧ bits .and .i64 x 4611686018427387903 = (q : Int) := by
  have hx : (BitVec.ofInt 64 x).toNat &&& 4611686018427387903 ≤ 4611686018427387903 := Nat.and_le_right
  have h7 : (BitVec.ofInt 64 (4611686018427387903 : Int)).toNat = 4611686018427387903 := by decide
  refine ⟨(BitVec.ofInt 64 x).toNat &&& 4611686018427387903, hx, ?_⟩
  show IntKind.i64.wrap ((BitVec.ofInt 64 x &&& BitVec.ofInt 64 (4611686018427387903 : Int)).toNat : Int) = _
  rw [BitVec.toNat_and, h7, IntKind.wrap_i64]
  generalize (BitVec.ofInt 64 x).toNat &&& 4611686018427387903 = z at *
  omega
theorem pick_all (l : List Go.Proofs.YtpbapaghcabehaaGreatDoor.o1.Ky) : ∀ n, pick (fun _ => true) n l = l ∧ pick (fun _ => !true) n l = [] := by
  induction l with
  | nil => intro n; exact ⟨rfl, rfl⟩
  | cons k l ih =>
    intro n
    obtain ⟨h1, h2⟩ := ih (n + 1)
    constructor
    · unfold pick
      rw [if_pos rfl, h1]
    · unfold pick
      rw [if_neg (by decide), h2]
end Go.Proofs.YtpbapaghcabehaaGreatDoor.z7

namespace Go.Proofs.YtpbapaghcabehaaGreatDoor.z8
open Go.RowKit Go.PlainAid Go.Shelf
open Go.Proofs.YtpbapaghcabehaaGreatDoor.ta Go.Proofs.YtpbapaghcabehaaGreatDoor.tb Go.Proofs.YtpbapaghcabehaaGreatDoor.tc Go.Proofs.YtpbapaghcabehaaGreatDoor.th Go.Proofs.YtpbapaghcabehaaGreatDoor.tj Go.Proofs.YtpbapaghcabehaaGreatDoor.tk Go.Proofs.YtpbapaghcabehaaGreatDoor.kp Go.Proofs.YtpbapaghcabehaaGreatDoor.pj Go.Proofs.YtpbapaghcabehaaGreatDoor.va Go.Proofs.YtpbapaghcabehaaGreatDoor.vb Go.Proofs.YtpbapaghcabehaaGreatDoor.vc Go.Proofs.YtpbapaghcabehaaGreatDoor.vd Go.Proofs.YtpbapaghcabehaaGreatDoor.wa Go.Proofs.YtpbapaghcabehaaGreatDoor.wb Go.Proofs.YtpbapaghcabehaaGreatDoor.n3 Go.Proofs.YtpbapaghcabehaaGreatDoor.n4 Go.Proofs.YtpbapaghcabehaaGreatDoor.o1 Go.Proofs.YtpbapaghcabehaaGreatDoor.o3 Go.Proofs.YtpbapaghcabehaaGreatDoor.o6 Go.Proofs.YtpbapaghcabehaaGreatDoor.t5 Go.Proofs.YtpbapaghcabehaaGreatDoor.yc Go.Proofs.YtpbapaghcabehaaGreatDoor.u1 Go.Proofs.YtpbapaghcabehaaGreatDoor.w2 Go.Proofs.YtpbapaghcabehaaGreatDoor.w3 Go.Proofs.YtpbapaghcabehaaGreatDoor.w5 Go.Proofs.YtpbapaghcabehaaGreatDoor.w7 Go.Proofs.YtpbapaghcabehaaGreatDoor.ytc Go.Proofs.YtpbapaghcabehaaGreatDoor.ytf Go.Proofs.YtpbapaghcabehaaGreatDoor.z1 Go.Proofs.YtpbapaghcabehaaGreatDoor.z2 Go.Proofs.YtpbapaghcabehaaGreatDoor.z3 Go.Proofs.YtpbapaghcabehaaGreatDoor.z6 Go.Proofs.YtpbapaghcabehaaGreatDoor.z7
open Go.Proofs.YtpbapaghcabehaaGreatDoor.yta (infoS)
open Go.Proofs.YtpbapaghcabehaaGreatDoor.ytb (one_texts)
open Go.Proofs.YtpbapaghcabehaaGreatDoor.ytd (rd_at)
open Go.Proofs.YtpbapaghcabehaaGreatDoor.ytf (new_one)
set_option linter.unusedVariables false
set_option maxRecDepth 4000

-- the box of a new checkpoint
def Xp (w wx : World) (g : Nat) (o : ByteArray) (n : Int) (r : ByteArray) : Prop := Below w.heap.size w wx ∧ w.heap.size ≤ g ∧ wx.heap[g]? = some (.cells #[.string o, .int .i64 n, .string r, .slice none 0 0] 24 (0, 0))
theorem xp_alloc {w w' : World} {o r : ByteArray} {n : Int} (h : Below w.heap.size w w') : Xp w (w'.alloc (.cells #[.string o, .int .i64 n, .string r, .slice none 0 0] 24)) w'.heap.size o n r := ⟨h.alloc h.size _, h.size, heap_alloc_new _ _⟩
theorem xp_set {w w' : World} {o r : ByteArray} {n : Int} {x y z u : Value} (h : Below w.heap.size w w') (hz : w'.heap[w.heap.size]? = some (.cells #[x, y, z, u] 24 (0, 0))) : Xp w ((((w'.setCell ⟨w.heap.size, 0, none⟩ (.string o)).setCell ⟨w.heap.size, 1, none⟩ (.int .i64 n)).setCell ⟨w.heap.size, 2, none⟩ (.string r)).setCell ⟨w.heap.size, 3, none⟩ (.slice none 0 0)) w.heap.size o n r := by
  refine ⟨(((h.setCell (p := ⟨w.heap.size, 0, none⟩) (Nat.le_refl _) _).setCell (p := ⟨w.heap.size, 1, none⟩) (Nat.le_refl _) _).setCell (p := ⟨w.heap.size, 2, none⟩) (Nat.le_refl _) _).setCell (p := ⟨w.heap.size, 3, none⟩) (Nat.le_refl _) _, Nat.le_refl _, ?_⟩
  have e := heap_setCell_same w' w.heap.size 0 _ _ (.string o) hz
  have e1 := heap_setCell_same _ w.heap.size 1 _ _ (.int .i64 n) e
  have e2 := heap_setCell_same _ w.heap.size 2 _ _ (.string r) e1
  exact heap_setCell_same _ w.heap.size 3 _ _ (.slice none 0 0) e2
theorem ne_size {r : ByteArray} (h : r.toList.isEmpty = false) : 1 ≤ r.size := by
  rcases Nat.eq_zero_or_pos r.size with h0 | h0
  · have e : r = ByteArray.empty := bs_inj (List.length_eq_zero_iff.1 (by rw [bs_length]; exact h0))
    subst e
    exact absurd h (by decide +kernel)
  · exact h0
-- what stands in a cell
def cur3 (X : World) (q : Nat) : Value := (X.cell? ⟨q, 3, none⟩).getD (.slice none 0 0)
theorem cur3_of {X : World} {q : Nat} {v : Value} (h : X.cell? ⟨q, 3, none⟩ = some v) : X.cell? ⟨q, 3, none⟩ = some (cur3 X q) ∧ cur3 X q = v := by
  unfold cur3
  rw [h]
  exact ⟨rfl, rfl⟩
theorem step_named {ops : Array Oper} {o : Oper} {a : Act} {w : World} {K : Act → World → Prop} {Q : Exit → Act → World → Prop} {E : Prop} (hg : o.guard = none) (k d : Nat)
    (hop : o.op = .call { callee := .value (.func 10), args := #[.tmp k], argTypes := #[9] }) (hd : o.dst = some d) (y N2 : ByteArray) (hN : nmd y = N2) (hs : y.size ≤ 140737488351232) (hy : a.tmps[k]?.getD undef = .string y)
    (hK : ∀ w', Below w.heap.size w w' → K { tmps := a.tmps.setIfInBounds d (.string N2), defers := a.defers } w') :
    if Region.wanted o (yielded ops a.tmps) = true then Oper.wp Tryz.prog o a w K Q else E := by
  have hw : Region.wanted o (yielded ops a.tmps) = true := by simp [Region.wanted, hg]
  rw [if_pos hw]
  have C := namedC y hs w
  rw [hN] at C
  have HKK : Hid _ := hK
  clear hK
  unfold Oper.wp execOp
  simp only [hop]
  go_simp
  refine C.mono ?_
  rintro e w' ⟨rfl, hb⟩
  exact HKK.out w' hb
-- the checkpoint that is being made
structure Mk (p q : Nat) (W : World) (o : ByteArray) (n : Int) (r : ByteArray) (xs : List ByteArray) (m : Nat) (wr : World) : Prop where
  pq : p < q
  box : ∃ a c, wr.heap[q]? = some (.cells #[.string o, .int .i64 n, .string r, .slice a m c] 24 (0, 0)) ∧ wr.ownsRow (q + 1) 9 1 (.slice a m c) m (xs.map Value.string)
  len : xs.length = m
  low : Below (p + 1) W wr
set_option maxHeartbeats 6400000 in
theorem law_point (o0 : ByteArray) (n0 : Int) (r0 : ByteArray) (l0 : List ByteArray) (a : Option Addr) (c : Nat) (b : ByteArray) (w : World) (hn : I64 n0) (zo : o0.size ≤ 1048576) (zr : r0.size ≤ 1048576) (hr : Reads w (.slice a l0.length c) l0) (hz : tk l0 l0.length + l0.length ≤ 1048576) (zb : b.size ≤ 1048576) (T : Hid (Tab w)) (N : Hid (NumW w)) :
    Calls Tryz.prog 4 #[.agg #[.string o0, .int .i64 n0, .string r0, .slice a l0.length c], .string b] w fun e w' => e = .returned (.bool true) ∧ Below w.heap.size w w' := by
  obtain ⟨i0, hi, hz0, hz1, hz2⟩ := info_parts infoS
  have HIN : Hid (_ ∧ _ ∧ _ ∧ _) := ⟨hi, hz0, hz1, hz2⟩
  clear hi hz0 hz1 hz2
  have HRD : Hid (Reads w (.slice a l0.length c) l0) := hr
  obtain ⟨W, HW⟩ : ∃ W, Hid (w.alloc (.cells #[.string o0, .int .i64 n0, .string r0, .slice a l0.length c] 24) = W) := ⟨_, rfl⟩
  have BW : Hid (Below w.heap.size w W) := by rw [← HW.out]; exact (Below.refl _ _).alloc (Nat.le_refl _) _
  have zW : Hid (w.heap.size + 1 ≤ W.heap.size) := by show _ ≤ _; rw [← HW.out]; simp
  have SX : Hid (∀ w', Below (w.heap.size + 1) W w' → w'.cell? ⟨w.heap.size, 0, none⟩ = some (.string o0) ∧ w'.cell? ⟨w.heap.size, 1, none⟩ = some (.int .i64 n0) ∧ w'.cell? ⟨w.heap.size, 2, none⟩ = some (.string r0) ∧ w'.cell? ⟨w.heap.size, 3, none⟩ = some (.slice a l0.length c)) := by
    rw [← HW.out]; exact fun w' h => box4 w w' _ _ _ _ _ h
  obtain ⟨p, HP⟩ : ∃ p, Hid (w.heap.size = p) := ⟨_, rfl⟩
  have FIN : Hid (∀ w', Below (p + 1) W w' → Below w.heap.size w w') := fun w' h => BW.out.trans (h.mono (by rw [← HP.out]; omega))
  have NW : Hid (∀ w', Below (p + 1) W w' → Hid (NumW w')) := fun w' h => N.out.down (FIN.out w' h)
  have TW : Hid (∀ w', Below (p + 1) W w' → Hid (Tab w')) := fun w' h => T.out.down (FIN.out w' h)
  have RW : Hid (∀ w', Below (p + 1) W w' → Reads w' (.slice a l0.length c) l0) := fun w' h => HRD.out.later (FIN.out w' h)
  rw [HP.out] at SX zW
  obtain ⟨k0, HK0⟩ : ∃ k, Hid (l0.length = k) := ⟨_, rfl⟩
  have hk0 : k0 ≤ 1048576 := by rw [← HK0.out]; omega
  rw [HK0.out] at SX RW HW ⊢
  obtain ⟨q0, hq0, hand⟩ := and62 n0
  have HAND : Hid _ := hand
  have hand2 : (bits .and .i64 n0 4611686018427387903) = (q0 : Int) := hand
  have C1 : Hid (∀ w, Calls _ _ _ _ _) := fun w => namedC o0 (by omega) w
  have HNM : Hid (nm (nmd o0) = true) := nm_nmd o0
  obtain ⟨o, HO⟩ : ∃ o, Hid (nmd o0 = o) := ⟨_, rfl⟩
  rw [HO.out] at C1 HNM
  have HSZ : Hid (∀ x ∈ l0, x.size ≤ 140737488351232) := fun x hx => by
    obtain ⟨i, hi, rfl⟩ := List.getElem_of_mem hx
    have h1 := tk_mono l0 (show i + 1 ≤ l0.length by omega)
    have h2 : tk l0 (i + 1) = tk l0 i + (l0.getD i ByteArray.empty).size := rfl
    rw [List.getD_eq_getElem?_getD, List.getElem?_eq_getElem hi] at h2
    simp only [Option.getD_some] at h2
    omega
  have HZB : Hid (b.size ≤ 1048576) := zb
  have ZO : Hid (o.size ≤ 64) := nm_size HNM.out
  have HN0 : Hid (I64 n0) := hn
  obtain ⟨p0, p1, p2, p3⟩ := SX.out W (Below.refl _ _)
  have S4 : Hid (∀ w', Hb2 W w' → Hb2 W w' ∧ w'.cell? ⟨p, 0, none⟩ = some (.string o0) ∧ w'.cell? ⟨p, 1, none⟩ = some (.int .i64 n0) ∧ w'.cell? ⟨p, 2, none⟩ = some (.string r0)) := fun w' h => ⟨h, by
    have h2 := SX.out w' (Below.mono h zW.out)
    exact ⟨h2.1, h2.2.1, h2.2.2.1⟩⟩
  clear hr hz zb hn zo hand
  go_enter Tryz.func4, Tryz.ntmps4
  go_wp2_with fail
  rw [HP.out, HW.out]
  go_wp2_with fail
  go_cut [5] (fun cc wx => ∃ q, cc = .pointer (some ⟨q, 0, none⟩) ∧ Hid (Xp W wx q o (q0 : Int) r0))
  case first =>
    go_region_held3 (fun w' => Hb2 W w' ∧ w'.cell? ⟨p, 0, none⟩ = some (.string o0) ∧ w'.cell? ⟨p, 1, none⟩ = some (.int .i64 n0) ∧ w'.cell? ⟨p, 2, none⟩ = some (.string r0)) (first | exact S4.out _ (Hb2.drew _) | exact S4.out _ (Hb2.alloc (And.left (by assumption)) _) | exact S4.out _ (Hb2.on (And.left (by assumption)) hb') | exact S4.out _ (Hb2.alloc HWW.out _) | exact S4.out _ (Hb2.set (Hb2.set (Hb2.set (Hb2.set HWW.out (Nat.le_refl _) _) (Nat.le_refl _) _) (Nat.le_refl _) _) (Nat.le_refl _) _)) ((go_at_call 10; refine (C1.out _).mono ?_; rintro e w' ⟨rfl, hb'⟩; have HWW : Hid (Hb2 W w') := Hb2.on (And.left (by assumption)) hb'; try (have Z0 : w'.heap[W.heap.size]? = some (.cells #[.string ⟨#[]⟩, .int .i64 0, .string ⟨#[]⟩, .slice none 0 0] 24 (0, 0)) := (hb'.block W.heap.size (by simp)).trans (heap_alloc_new W.drew _); have z0 := cell_of_row _ _ 0 _ _ _ Z0; have z1 := cell_of_row _ _ 1 _ _ _ Z0; have z2 := cell_of_row _ _ 2 _ _ _ Z0; have z3 := cell_of_row _ _ 3 _ _ _ Z0; have f0 := frozen_of_row w' W.heap.size 0 _ _ Z0; have f1 := frozen_of_row w' W.heap.size 1 _ _ Z0; have f2 := frozen_of_row w' W.heap.size 2 _ _ Z0; have f3 := frozen_of_row w' W.heap.size 3 _ _ Z0; have HZ0 : Hid (w'.heap[W.heap.size]? = some (.cells #[.string ⟨#[]⟩, .int .i64 0, .string ⟨#[]⟩, .slice none 0 0] 24 (0, 0))) := Z0; clear Z0)))
    all_goals
      go_wp2
      go_meet
      first
      | exact ⟨_, rfl, xp_alloc HWW.out⟩
      | exact ⟨_, rfl, xp_set HWW.out HZ0.out⟩
  case rest =>
  obtain ⟨q, rfl, HX⟩ := hcut
  have HQ : Hid (wc.heap[q]? = some (.cells #[.string o, .int .i64 (q0 : Int), .string r0, .slice none 0 0] 24 (0, 0))) := HX.out.2.2
  have PQ : Hid (p < q) := Nat.lt_of_lt_of_le (Nat.lt_of_succ_le zW.out) HX.out.2.1
  have B1 : Hid (Below (p + 1) W wc) := HX.out.1.mono zW.out
  have c0 := cell_of_row _ _ 0 _ _ _ HQ.out
  have c1 := cell_of_row _ _ 1 _ _ _ HQ.out
  have c2 := cell_of_row _ _ 2 _ _ _ HQ.out
  have c3 := cell_of_row _ _ 3 _ _ _ HQ.out
  have f2 := frozen_of_row _ _ 2 _ _ HQ.out
  clear HX S4 p0 p1 p2 p3
  go_upto_if 30 with fail
  go_cut [5] (fun cc wx => cc = .pointer (some ⟨q, 0, none⟩) ∧ ∃ r1 : ByteArray, 1 ≤ r1.size ∧ r1.size ≤ 1048576 ∧ Hid (wx.heap[q]? = some (.cells #[.string o, .int .i64 (q0 : Int), .string r1, .slice none 0 0] 24 (0, 0)) ∧ Below (p + 1) W wx))
  case first =>
    go_wp2
    all_goals (
      go_meet
      first
      | exact ⟨rfl, ⟨#[114]⟩, by decide, by decide, heap_setCell_same _ _ 2 _ _ _ HQ.out, B1.out.setCell (show p + 1 ≤ q from PQ.out) _⟩
      | (rename_i hE; exact ⟨rfl, r0, ne_size hE, zr, HQ.out, B1.out⟩))
  case rest =>
  obtain ⟨rfl, r1, hr1, hr2, HH⟩ := hcut
  have HQ2 : Hid (wc.heap[q]? = some (.cells #[.string o, .int .i64 (q0 : Int), .string r1, .slice none 0 0] 24 (0, 0))) := HH.out.1
  have B2 : Hid (Below (p + 1) W wc) := HH.out.2
  clear c0 c1 c2 c3 f2 HQ B1 HH
  have c0 := cell_of_row _ _ 0 _ _ _ HQ2.out
  have c1 := cell_of_row _ _ 1 _ _ _ HQ2.out
  have c2 := cell_of_row _ _ 2 _ _ _ HQ2.out
  have c3 := cell_of_row _ _ 3 _ _ _ HQ2.out
  have f2 := frozen_of_row _ _ 2 _ _ HQ2.out
  go_upto_region 4 with fail
  go_cut [5] (fun cc wx => cc = .pointer (some ⟨q, 0, none⟩) ∧ ∃ r2 : ByteArray, 1 ≤ r2.size ∧ r2.size ≤ 32 ∧ Hid (wx.heap[q]? = some (.cells #[.string o, .int .i64 (q0 : Int), .string r2, .slice none 0 0] 24 (0, 0)) ∧ Below (p + 1) W wx))
  case first =>
    obtain ⟨k, hk1, hk2, hk3, hmin⟩ : ∃ k : Nat, 1 ≤ k ∧ k ≤ 32 ∧ k ≤ r1.size ∧ min (r1.size : Int) 32 = (k : Int) := by
      by_cases h : r1.size ≤ 32
      · exact ⟨r1.size, hr1, h, Nat.le_refl _, by omega⟩
      · exact ⟨32, by omega, by omega, by omega, by omega⟩
    have hk4 : (k : Int) ≤ (r1.size : Int) := by omega
    have hk5 : (0 : Int) ≤ (k : Int) := by omega
    go_wp2
    go_meet
    exact ⟨rfl, r1.extract 0 k, by rw [ByteArray.size_extract]; omega, by rw [ByteArray.size_extract]; omega, heap_setCell_same _ _ 2 _ _ _ HQ2.out, B2.out.setCell (show p + 1 ≤ q from PQ.out) _⟩
  case rest =>
  obtain ⟨rfl, r2, hs1, hs2, HH⟩ := hcut
  have HM0 : Hid (Mk p q W o (q0 : Int) r2 [] 0 wc) := ⟨PQ.out, ⟨none, 0, HH.out.1, World.ownsRow_nil _ _ _ _⟩, rfl, HH.out.2⟩
  clear HQ2 c0 c1 c2 c3 f2 B2 HH hr1 hr2
  go_wp2_with fail
  go_loopw [6] (fun i wr => ∃ k : Nat, k ≤ k0 ∧ k ≤ 20 ∧ i = .int .i64 k ∧ Hid (Mk p q W o (q0 : Int) r2 ((l0.take k).map nmd) k wr)) (fun i _ => (k0 - intOf i).toNat)
  case atStart => exact ⟨0, Nat.zero_le _, by omega, rfl, HM0.out⟩
  case round =>
    clear HM0
    obtain ⟨k, hk, hk20, rfl, HM⟩ := hrel
    obtain ⟨p0, p1, p2, p3⟩ := SX.out wr HM.out.low
    have RR : Hid (Reads wr (.slice a k0 c) l0) := RW.out wr HM.out.low
    obtain ⟨a1, c1, hb1, hb2⟩ := HM.out.box
    have HBQ : Hid (wr.heap[q]? = some (.cells #[.string o, .int .i64 (q0 : Int), .string r2, .slice a1 k c1] 24 (0, 0))) := hb1
    have HOW : Hid (wr.ownsRow (q + 1) 9 1 (.slice a1 k c1) k (((l0.take k).map nmd).map Value.string)) := hb2
    clear hb1 hb2
    by_cases hlt : k < k0 ∧ k < 20
    · obtain ⟨hlt, hl20⟩ := hlt
      have hlt' : (k : Int) < k0 := by omega
      have hl20' : (k : Int) < 20 := by omega
      have hkl : k < l0.length := by rw [HK0.out]; exact hlt
      obtain ⟨y, HY⟩ : ∃ y, Hid (l0[k]'hkl = y) := ⟨_, rfl⟩
      obtain ⟨kb, ko, ha, hbw, q1w⟩ := rd_at HRD.out k hkl
      rw [HY.out] at q1w
      subst ha
      have q1 := ((FIN.out wr HM.out.low).cell (p := ⟨kb, ko + k, none⟩) hbw).trans q1w
      have hbp : kb < q + 1 := by have h1 := PQ.out; rw [HP.out] at hbw; omega
      have HNX : Hid ((l0.take (k + 1)).map nmd = (l0.take k).map nmd ++ [nmd y]) := by show _ = _; rw [List.take_succ_eq_append_getElem hkl, List.map_append, HY.out]; rfl
      have C2 : Hid (∀ w, Calls _ _ _ _ _) := fun w => namedC y (HSZ.out y (by rw [← HY.out]; exact List.getElem_mem hkl)) w
      have znm := nm_size (nm_nmd y)
      obtain ⟨N2, HN2⟩ : ∃ N2, Hid (nmd y = N2) := ⟨_, rfl⟩
      rw [HN2.out] at C2 HNX znm
      obtain ⟨xs, HXS⟩ : ∃ xs, Hid ((l0.take k).map nmd = xs) := ⟨_, rfl⟩
      have HLX : Hid (xs.length = k) := by show _ = _; rw [← HXS.out]; exact HM.out.len
      rw [HXS.out] at HNX HOW
      have q3 := cell_of_row _ _ 3 _ _ _ HBQ.out
      have hqw := (Array.getElem?_eq_some_iff.1 HBQ.out).1
      have HQW : Hid (q < wr.heap.size) := hqw
      have HPW : Hid (p < wr.heap.size) := Nat.lt_trans PQ.out hqw
      have D0 : Hid (Below wr.heap.size wr wr.drew) := Go.Proofs.YtpbapaghcabehaaGreatDoor.tj.below_dN (Below.refl _ _) 1
      have HYZ : Hid (y.size ≤ 140737488351232) := HSZ.out y (by rw [← HY.out]; exact List.getElem_mem hkl)
      clear hqw p0 p1 p2 HY
      go_upto_region 8 with fail
      go_region_law ((first | (refine step_named (by rfl) 57 58 (by rfl) (by rfl) y N2 HN2.out HYZ.out (by simp) ?_; intro w5 k5; have D5 : Hid (Below wr.heap.size wr w5) := D0.out.trans (k5.mono D0.out.size); have t3 := (D5.out.cell (p := ⟨q, 3, none⟩) HQW.out).trans q3; have t4 : (w5.alloc (.cells #[.string N2] 9)).cell? ⟨q, 3, none⟩ = some (.slice a1 k c1) := ((D5.out.alloc D5.out.size _).cell (p := ⟨q, 3, none⟩) HQW.out).trans q3; clear k5) | (have BAL : Hid (Below w5.heap.size w5 (w5.alloc (.cells #[.string N2] 9))) := (Below.refl _ _).alloc (Nat.le_refl _) _; have O5 : Hid (w5.ownsRow (q + 1) 9 1 (.slice a1 k c1) k (xs.map Value.string)) := Go.Proofs.YtpbapaghcabehaaGreatDoor.o1.own_kp HOW.out (Kp.of_below (A := fun _ => False) D5.out) (fun _ _ e => e); have HOA : Hid ((w5.alloc (.cells #[.string N2] 9)).ownsRow (q + 1) 9 1 (.slice a1 k c1) k (xs.map Value.string)) := O5.out.alloc _; have HBS : Hid (q + 1 ≤ (w5.alloc (.cells #[.string N2] 9)).heap.size) := Nat.le_trans HQW.out (Nat.le_trans D5.out.size BAL.out.size); have BAQ : Hid (Below (q + 1) wr (w5.alloc (.cells #[.string N2] 9))) := (D5.out.trans (BAL.out.mono D5.out.size)).mono HQW.out; refine step_append_lies _ (by rfl) (.tmp 52) (.tmp 59) 22 (by rfl) (q + 1) 9 i0 (.string ⟨#[]⟩) 1 16 Tryz.underlying22 HIN.out.1 HIN.out.2.1 HIN.out.2.2.1 HIN.out.2.2.2 rfl (by decide) (.slice a1 k c1) k _ (by simp [Act.eval]) HOA.out ⟨w5.heap.size, 0, none⟩ 1 1 [.string N2] (by simp [Act.eval]) rfl (new_one _ _ _) (one_texts [N2]) (by omega) (by unfold maxLen; omega) (by omega) HBS.out _ rfl ?_; intro g6 c6 w7 ho7 hg7 hl7 hlt7; have HO2 : Hid (w7.ownsRow (q + 1) 9 1 (.slice (some ⟨g6, 0, none⟩) (k + 1) c6) (k + 1) ((xs ++ [N2]).map Value.string)) := (by rw [List.map_append]; exact ho7); have B2 : Hid (Below (q + 1) wr w7) := BAQ.out.grown hg7 HBS.out (fun j hj => (HOA.out.lt _ hj).1); have hq2 := (B2.out.block q (Nat.lt_succ_self _)).trans HBQ.out; have HQ2 : Hid (w7.heap[q]? = some (.cells #[.string o, .int .i64 (q0 : Int), .string r2, .slice a1 k c1] 24 (0, 0))) := hq2; have g2 := cell_of_row _ _ 3 _ _ _ hq2; have g3 := frozen_of_row _ _ 3 _ _ hq2; clear hq2 ho7 hg7 hl7 hlt7)))
      all_goals (
        go_wp2
        go_roundw
        case rel =>
          refine ⟨k + 1, by omega, by omega, by go_num, ?_⟩
          rw [HNX.out]
          refine ⟨HM.out.pq, ⟨_, _, heap_setCell_same _ _ 3 _ _ _ HQ2.out, ?_⟩, by rw [List.length_append, HLX.out]; rfl, ?_⟩
          · exact Go.Proofs.YtpbapaghcabehaaGreatDoor.o1.own_kp HO2.out (Kp.setCell (A := fun j => j = q) _ q 3 _ rfl) (fun j hj e => by have := (HO2.out.lt j hj.symm).1; omega)
          · exact (HM.out.low.trans (B2.out.mono (by have := PQ.out; omega))).setCell (show p + 1 ≤ q from PQ.out) _
        case measure => simp [intOf]; omega)
    · go_upto_region 6 with fail
      go_cut [48] (fun cc wx => cc = .bool false ∧ wx = wr)
      case first =>
        by_cases hlt1 : k < k0
        · have hlt' : (k : Int) < k0 := by omega
          have hl20' : ¬ (k : Int) < 20 := by omega
          go_wp2
          go_meet
          exact ⟨rfl, rfl⟩
        · have hlt' : ¬ (k : Int) < k0 := by omega
          go_wp2
          go_meet
          exact ⟨rfl, rfl⟩
      case rest =>
      obtain ⟨rfl, hwx⟩ := hcut
      subst hwx
      obtain ⟨ext, HEX⟩ : ∃ ext, Hid ((l0.take k).map nmd = ext) := ⟨_, rfl⟩
      rw [HEX.out] at HOW
      have hlx : ext.length = k := by rw [← HEX.out]; exact HM.out.len
      have hnx : ∀ x ∈ ext, nm x = true := by
        rw [← HEX.out]
        intro x hx
        obtain ⟨y, _, rfl⟩ := List.mem_map.1 hx
        exact nm_nmd y
      have hI : I64 (q0 : Int) := ⟨by omega, by omega⟩
      have hE := ok_txt o (q0 : Int) r2 ext HNM.out (by omega) (by omega) hs1 hs2 hnx
      have hgo := goes_txt o (q0 : Int) r2 ext HNM.out hnx
      have hzt := txt_size o (q0 : Int) r2 ext hI HNM.out hs2 hnx (by omega)
      have hzk := ext_tk ext hnx (by omega)
      have hpt := pt_back o (q0 : Int) r2 ext hI hE
      have hT : txT o (q0 : Int) r2 ext = txt o (q0 : Int) r2 ext := by unfold txT; rw [if_pos hE]
      rw [hT] at hpt
      obtain ⟨TX, HTX⟩ : ∃ t, Hid (txt o (q0 : Int) r2 ext = t) := ⟨_, rfl⟩
      rw [HTX.out] at hgo hzt hpt hT
      have BLK : Hid (Below (p + 1) W wc) := HM.out.low
      have OE : Hid (Reads wc (.slice a1 k c1) ext) := own_texts HOW.out hlx
      have ONO : Hid (a1 = none → c1 = 0) := by
        intro e
        rcases HOW.out.2 with ⟨e2, _⟩ | ⟨g, cap, cur, e2, _⟩
        · injection e2
        · injection e2 with e3
          rw [e] at e3
          cases e3
      have CT : Hid (Calls Tryz.prog 11 #[.agg #[.string o, .int .i64 (q0 : Int), .string r2, .slice a1 k c1]] wc fun e w' => e = .returned (.tuple #[.string TX, .int .i64 0]) ∧ Below wc.heap.size wc w') := by
        have h := textC o (q0 : Int) r2 ext a1 c1 wc hI (by have := ZO.out; omega) (by omega) (by rw [hlx]; exact OE.out) ONO.out (by omega) (NW.out wc BLK.out).out.tab
        unfold txV at h
        rw [hE, hT, hlx] at h
        exact h
      have HGO : Hid (goesB TX = true) := hgo
      have HZT : Hid (TX.size ≤ 20001) := hzt
      have HPT : Hid (ptP TX = some ⟨o, (q0 : Int), r2, ext⟩) := hpt
      have CP : Hid (∀ w, Hid (NumW w) → Calls Tryz.prog 6 #[.string TX] w fun e w' => (∃ a3 c3, e = .returned (.tuple #[.agg #[.string o, .int .i64 (q0 : Int), .string r2, .slice a3 k c3], .int .i64 0]) ∧ Reads w' (.slice a3 k c3) ext) ∧ Below w.heap.size w w') := fun w h => by
        refine (parseC TX (by have := HZT.out; omega) w h).mono ?_
        rintro e w' ⟨h2, hb⟩
        rw [HPT.out] at h2
        obtain ⟨a3, c3, he, hx⟩ := h2
        refine ⟨⟨a3, c3, by rw [he, hlx], ?_⟩, hb⟩
        have := hx.reads
        rw [hlx] at this
        exact this
      obtain ⟨ks, HKS⟩ : ∃ ks, Hid (sgn [] = ks) := ⟨_, rfl⟩
      have hks := sgn_ok []
      have hksz := sgn_sizes (ks := []) (fun k hk => by cases hk)
      rw [HKS.out] at hks hksz
      have CG : Hid (∀ w, Calls Tryz.prog 13 #[.slice none 0 0] w fun e w' => (∃ a c, e = .returned (.slice a ks.length c) ∧ ReadsY w' (.slice a ks.length c) ks) ∧ Below w.heap.size w w') := fun w => by
        refine (signersC (.slice none 0 0) [] w ⟨none, 0, rfl, Nat.le_refl _, fun _ => rfl, .inl rfl⟩ (by simp) (fun k hk => by cases hk)).mono ?_
        rintro e w' ⟨⟨v', rfl, hlk⟩, hb⟩
        rw [HKS.out] at hlk
        obtain ⟨la, lc, hv⟩ := Go.Proofs.YtpbapaghcabehaaGreatDoor.w3.own_form hlk
        subst hv
        exact ⟨⟨la, lc, rfl, lk_reads hlk rfl⟩, hb⟩
      obtain ⟨NT, HNT⟩ : ∃ nt, Hid (noteOf TX (sgs TX ks) = nt) := ⟨_, rfl⟩
      have CSG : Hid (∀ w a c, Hid (Tab w) → ReadsY w (.slice a ks.length c) ks → Calls Tryz.prog 12 #[.string TX, .slice a ks.length c] w fun e w' => e = .returned (.tuple #[.string NT, .int .i64 0]) ∧ Below w.heap.size w w') := fun w a c h1 h2 => by
        rw [← HNT.out]
        exact sign1 TX ks HGO.out hks.1 (by omega) hks.2.2 HZT.out hksz _ w h2 h1
      have COP : Hid (∀ w a c, Hid (Tab w) → ReadsY w (.slice a ks.length c) ks → Calls Tryz.prog 14 #[.string NT, .slice a ks.length c] w fun e w' => (∃ ga n1 gc ra n2 rc, e = .returned (.tuple #[.agg #[.string TX, .slice ga n1 gc, .slice ra n2 rc], .int .i64 0])) ∧ Below w.heap.size w w') := fun w a c h1 h2 => by
        have hp := (pick_all ks 0).1
        rw [← HNT.out]
        refine (open1 TX ks (fun _ => true) HGO.out hks.1 (by omega) hks.2.2 HZT.out hksz _ w (by rw [hp]; exact h2) h1).mono ?_
        rintro e w' ⟨h3, hb⟩
        rw [hp, if_neg (by omega)] at h3
        obtain ⟨ga, gc, ra, rc, he, _⟩ := h3
        exact ⟨⟨ga, _, gc, ra, _, rc, he⟩, hb⟩
      have CAL : Hid (∀ w a' c', Reads w (.slice a1 k c1) ext → Reads w (.slice a' k c') ext → Calls Tryz.prog 8 #[.agg #[.string o, .int .i64 (q0 : Int), .string r2, .slice a1 k c1], .agg #[.string o, .int .i64 (q0 : Int), .string r2, .slice a' k c']] w fun e w' => e = .returned (.bool true) ∧ Below w.heap.size w w') := fun w a' c' h1 h2 => by
        have h := alikeC o (q0 : Int) r2 ext a1 a' c1 c' w (by rw [hlx]; exact h1) (by rw [hlx]; exact h2) (by omega)
        rw [hlx] at h
        exact h
      have gt : (TX.toList == TX.toList) = true := beq_self_eq_true _
      have v0 := cell_of_row _ _ 0 _ _ _ HBQ.out
      have v1 := cell_of_row _ _ 1 _ _ _ HBQ.out
      have v2 := cell_of_row _ _ 2 _ _ _ HBQ.out
      have v3 := cell_of_row _ _ 3 _ _ _ HBQ.out
      have HQX : Hid (q < wc.heap.size) := (Array.getElem?_eq_some_iff.1 HBQ.out).1
      have ZX : Hid (p + 1 ≤ wc.heap.size) := Nat.le_trans (Nat.succ_le_of_lt PQ.out) (Nat.le_of_lt HQX.out)
      clear hlx hnx hI hE hgo hzt hzk hpt hT hks hksz p0 p1 p2 p3 hlt hs1 hs2 hk hk20 hk0 hq0 hand2
      go_wp2_with fail
      refine CT.out.mono ?_
      rintro e w1 ⟨rfl, hb1⟩
      have X1 : Hid (Below wc.heap.size wc w1) := hb1
      clear v0 v1 v2 v3 hb1
      go_wp2_with fail
      refine (CP.out w1 (NW.out w1 (BLK.out.trans (X1.out.mono ZX.out)))).mono ?_
      rintro e w2 ⟨⟨a3, c3, rfl, hr3⟩, hb2⟩
      have X2 : Hid (Below wc.heap.size wc w2) := X1.out.trans (hb2.mono X1.out.size)
      have R2 : Hid (Reads w2 (.slice a3 k c3) ext) := hr3
      clear hb2 hr3
      obtain ⟨V, HV⟩ : ∃ V, Hid (w2.alloc (.cells #[.string o, .int .i64 (q0 : Int), .string r2, .slice a3 k c3] 24) = V) := ⟨_, rfl⟩
      have BV : Hid (Below w2.heap.size w2 V) := by rw [← HV.out]; exact (Below.refl _ _).alloc (Nat.le_refl _) _
      have zV : Hid (w2.heap.size + 1 ≤ V.heap.size) := by show _ ≤ _; rw [← HV.out]; simp
      have SV : Hid (∀ w', Below (w2.heap.size + 1) V w' → w'.cell? ⟨w2.heap.size, 0, none⟩ = some (.string o) ∧ w'.cell? ⟨w2.heap.size, 1, none⟩ = some (.int .i64 (q0 : Int)) ∧ w'.cell? ⟨w2.heap.size, 2, none⟩ = some (.string r2) ∧ w'.cell? ⟨w2.heap.size, 3, none⟩ = some (.slice a3 k c3)) := by
        rw [← HV.out]; exact fun w' h => box4 w2 w' _ _ _ _ _ h
      have XV : Hid (Below wc.heap.size wc V) := X2.out.trans (BV.out.mono X2.out.size)
      have RV : Hid (Reads V (.slice a3 k c3) ext) := R2.out.later BV.out
      go_wp2_with fail
      rw [HV.out]
      refine (CG.out V).mono ?_
      rintro e w3 ⟨⟨la, lc, rfl, hy3⟩, hb3⟩
      have Y3 : Hid (Below V.heap.size V w3) := hb3
      have K3 : Hid (ReadsY w3 (.slice la ks.length lc) ks) := hy3
      clear hb3 hy3
      have PV : Hid (∀ w', Below V.heap.size V w' → Below (p + 1) W w') := fun w' h => BLK.out.trans ((XV.out.trans (h.mono XV.out.size)).mono ZX.out)
      go_wp2_with fail
      refine (CSG.out w3 la lc (TW.out w3 (PV.out w3 Y3.out)) K3.out).mono ?_
      rintro e w4 ⟨rfl, hb4⟩
      have Y4 : Hid (Below V.heap.size V w4) := Y3.out.trans (hb4.mono Y3.out.size)
      clear hb4
      go_wp2_with fail
      refine (CG.out w4).mono ?_
      rintro e w5 ⟨⟨lb, lb2, rfl, hy5⟩, hb5⟩
      have Y5 : Hid (Below V.heap.size V w5) := Y4.out.trans (hb5.mono Y4.out.size)
      have K5 : Hid (ReadsY w5 (.slice lb ks.length lb2) ks) := hy5
      clear hb5 hy5
      go_wp2_with fail
      refine (COP.out w5 lb lb2 (TW.out w5 (PV.out w5 Y5.out)) K5.out).mono ?_
      rintro e w6 ⟨⟨ga, n1, gc, ra, n2, rc, rfl⟩, hb6⟩
      have Y6 : Hid (Below V.heap.size V w6) := Y5.out.trans (hb6.mono Y5.out.size)
      clear hb6
      obtain ⟨U, HU⟩ : ∃ U, Hid (w6.alloc (.cells #[.string TX, .slice ga n1 gc, .slice ra n2 rc] 41) = U) := ⟨_, rfl⟩
      have BU : Hid (Below w6.heap.size w6 U) := by rw [← HU.out]; exact (Below.refl _ _).alloc (Nat.le_refl _) _
      have zU : Hid (w6.heap.size + 1 ≤ U.heap.size) := by show _ ≤ _; rw [← HU.out]; simp
      have SU : Hid (∀ w', Below (w6.heap.size + 1) U w' → w'.cell? ⟨w6.heap.size, 0, none⟩ = some (.string TX)) := by
        rw [← HU.out]
        intro w' h
        have hb : w'.heap[w6.heap.size]? = _ := (h.block _ (Nat.lt_succ_self _)).trans (heap_alloc_new w6 _)
        rw [cell_of_row _ _ 0 _ _ _ hb]; rfl
      have YU : Hid (Below V.heap.size V U) := Y6.out.trans (BU.out.mono Y6.out.size)
      obtain ⟨x0, x1, x2, x3⟩ := SV.out U (YU.out.mono zV.out)
      have hqU := ((XV.out.trans (YU.out.mono XV.out.size)).block q HQX.out).trans HBQ.out
      have v0 := cell_of_row _ _ 0 _ _ _ hqU
      have v1 := cell_of_row _ _ 1 _ _ _ hqU
      have v2 := cell_of_row _ _ 2 _ _ _ hqU
      have v3 := cell_of_row _ _ 3 _ _ _ hqU
      have u0 := SU.out U (Below.refl _ _)
      have RXU : Hid (Reads U (.slice a1 k c1) ext) := OE.out.later (XV.out.trans (YU.out.mono XV.out.size))
      have CU : Hid (Calls _ _ _ _ _) := CAL.out U a3 c3 RXU.out (RV.out.later YU.out)
      clear hqU
      rw [← HU.out] at x0 x1 x2 x3 v0 v1 v2 v3
      clear u0
      go_wp2_with (go_at_call 9; refine (numC _ _).mono ?_; rintro e wz ⟨rfl, hz⟩; rw [hz]; clear hz wz)
      rw [HU.out]
      clear x0 x1 x2 x3 v0 v1 v2 v3
      refine CU.out.mono ?_
      rintro e w7 ⟨rfl, hb7⟩
      have u0 := SU.out w7 (hb7.mono zU.out)
      have Y7 : Hid (Below V.heap.size V w7) := YU.out.trans (hb7.mono YU.out.size)
      clear hb7
      have CPB : Hid (Calls _ _ _ _ _) := parseC b (by have := HZB.out; omega) w7 (NW.out w7 (PV.out w7 Y7.out))
      cases hpb : ptP b with
      | none =>
        rw [hpb] at CPB
        clear hpb
        go_wp2_with fail
        refine CPB.out.mono ?_
        rintro e w8 ⟨rfl, hb8⟩
        have Y8 : Hid (Below V.heap.size V w8) := Y7.out.trans (hb8.mono Y7.out.size)
        clear hb8 u0
        obtain ⟨Z, HZ⟩ : ∃ Z, Hid (w8.alloc (.cells #[.string ⟨#[]⟩, .int .i64 0, .string ⟨#[]⟩, .slice none 0 0] 24) = Z) := ⟨_, rfl⟩
        have BZ : Hid (Below w8.heap.size w8 Z) := by rw [← HZ.out]; exact (Below.refl _ _).alloc (Nat.le_refl _) _
        have YZ : Hid (Below V.heap.size V Z) := Y8.out.trans (BZ.out.mono Y8.out.size)
        have SZ := box4 w8 Z (.string ⟨#[]⟩) (.int .i64 0) (.string ⟨#[]⟩) (.slice none 0 0) 24 (by rw [HZ.out]; exact Below.refl _ _)
        have CZ : Hid (Calls Tryz.prog 8 #[.agg #[.string ⟨#[]⟩, .int .i64 0, .string ⟨#[]⟩, .slice none 0 0], .agg #[.string ⟨#[]⟩, .int .i64 0, .string ⟨#[]⟩, .slice none 0 0]] Z fun e w' => e = .returned (.bool true) ∧ Below Z.heap.size Z w') := alikeC ⟨#[]⟩ 0 ⟨#[]⟩ [] none none 0 0 Z ⟨none, 0, rfl, .inl rfl⟩ ⟨none, 0, rfl, .inl rfl⟩ (by simp)
        obtain ⟨z0, z1, z2, z3⟩ := SZ
        rw [← HZ.out] at z0 z1 z2 z3
        unfold zeroP
        go_wp2_with (go_at_call 9; refine (numC _ _).mono ?_; rintro e wz ⟨rfl, hz⟩; rw [hz]; clear hz wz)
        rw [HZ.out]
        clear z0 z1 z2 z3
        refine CZ.out.mono ?_
        rintro e w9 ⟨rfl, hb9⟩
        have Y9 : Hid (Below V.heap.size V w9) := YZ.out.trans (hb9.mono YZ.out.size)
        clear hb9
        go_wp2
        go_ret
        exact ⟨rfl, FIN.out w9 (PV.out w9 Y9.out)⟩
      | some pb =>
        obtain ⟨hfl, hEb, hTb⟩ := pt_form b pb hpb
        obtain ⟨zo2, zr2, zl2, hI2⟩ := fl_small b pb hfl
        rw [hpb] at CPB
        obtain ⟨ob, nb, rb, lb3⟩ := pb
        simp only at hEb hTb zo2 zr2 zl2 hI2
        have zbb := HZB.out
        have CTB : Hid (∀ w a c, Hid (NumW w) → Reads w (.slice a lb3.length c) lb3 → (a = none → c = 0) → Calls Tryz.prog 11 #[.agg #[.string ob, .int .i64 nb, .string rb, .slice a lb3.length c]] w fun e w' => e = .returned (.tuple #[.string b, .int .i64 0]) ∧ Below w.heap.size w w') := fun w a c h1 h2 h3 => by
          have h := textC ob nb rb lb3 a c w hI2 (by omega) (by omega) h2 h3 (by omega) h1.out.tab
          unfold txV at h
          rw [hEb, hTb] at h
          exact h
        have gbb : (b.toList == b.toList) = true := beq_self_eq_true _
        obtain ⟨nl3, HNL⟩ : ∃ n, Hid (lb3.length = n) := ⟨_, rfl⟩
        clear hpb hfl hEb hTb zo2 zr2 zl2 hI2 zbb
        go_wp2_with fail
        refine CPB.out.mono ?_
        rintro e w8 ⟨⟨a8, c8, rfl, hx8⟩, hb8⟩
        have Y8 : Hid (Below V.heap.size V w8) := Y7.out.trans (hb8.mono Y7.out.size)
        have R8 : Hid (Reads w8 (.slice a8 lb3.length c8) lb3) := hx8.reads
        have N8 : Hid (a8 = none → c8 = 0) := hx8.none
        clear hb8 hx8 u0
        obtain ⟨Z, HZ⟩ : ∃ Z, Hid (w8.alloc (.cells #[.string ob, .int .i64 nb, .string rb, .slice a8 lb3.length c8] 24) = Z) := ⟨_, rfl⟩
        have BZ : Hid (Below w8.heap.size w8 Z) := by rw [← HZ.out]; exact (Below.refl _ _).alloc (Nat.le_refl _) _
        have YZ : Hid (Below V.heap.size V Z) := Y8.out.trans (BZ.out.mono Y8.out.size)
        have SZ := box4 w8 Z (.string ob) (.int .i64 nb) (.string rb) (.slice a8 lb3.length c8) 24 (by rw [HZ.out]; exact Below.refl _ _)
        have CZ : Hid (Calls _ _ _ _ _) := CTB.out Z a8 c8 (NW.out Z (PV.out Z YZ.out)) (R8.out.later BZ.out) N8.out
        rw [HNL.out] at SZ CZ HZ
        obtain ⟨z0, z1, z2, z3⟩ := SZ
        rw [← HZ.out] at z0 z1 z2 z3
        rw [HNL.out]
        go_wp2_with (go_at_call 9; refine (numC _ _).mono ?_; rintro e wz ⟨rfl, hz⟩; rw [hz]; clear hz wz)
        rw [HZ.out]
        clear z0 z1 z2 z3
        refine CZ.out.mono ?_
        rintro e w9 ⟨rfl, hb9⟩
        have Y9 : Hid (Below V.heap.size V w9) := YZ.out.trans (hb9.mono YZ.out.size)
        clear hb9
        go_wp2_with (go_at_call 9; refine (numC _ _).mono ?_; rintro e wz ⟨rfl, hz⟩; rw [hz]; clear hz wz)
        go_ret
        exact ⟨rfl, FIN.out w9 (PV.out w9 Y9.out)⟩
end Go.Proofs.YtpbapaghcabehaaGreatDoor.z8
