import Derived.Test.YtpcllegjnbeppaaGreatG2
import Derived.Deep.AppendLies
import Derived.Deep.RegionLaw
namespace Go.Proofs.YtpcllegjnbeppaaGreat.yo
open Go.RowKit Go.PlainAid Go.Maps Go.Shelf
open Go.Proofs.YtpcllegjnbeppaaGreat.ca Go.Proofs.YtpcllegjnbeppaaGreat.cb Go.Proofs.YtpcllegjnbeppaaGreat.cp Go.Proofs.YtpcllegjnbeppaaGreat.kp Go.Proofs.YtpcllegjnbeppaaGreat.ka Go.Proofs.YtpcllegjnbeppaaGreat.ya Go.Proofs.YtpcllegjnbeppaaGreat.yb Go.Proofs.YtpcllegjnbeppaaGreat.yc Go.Proofs.YtpcllegjnbeppaaGreat.yd Go.Proofs.YtpcllegjnbeppaaGreat.ye Go.Proofs.YtpcllegjnbeppaaGreat.yf Go.Proofs.YtpcllegjnbeppaaGreat.sb Go.Proofs.YtpcllegjnbeppaaGreat.mc Go.Proofs.YtpcllegjnbeppaaGreat.na Go.Proofs.YtpcllegjnbeppaaGreat.nb
set_option linter.unusedVariables false
set_option linter.unusedSimpArgs false
-- the bytes of a number, the highest first
def beN (n m : Nat) : Nat → List UInt8
  | 0 => []
  | i + 1 => beN n m i ++ [UInt8.ofNat (m / 2 ^ (8 * (n - 1 - i)))]
theorem beN_len (n m i : Nat) : (beN n m i).length = i := by
  induction i with
  | zero => rfl
  | succ i ih => simp [beN, ih]
abbrev Bu (B b : Nat) (l : List UInt8) (w : World) : Prop := Lib.IsBuilderF 86 5 B b (Lib.byteCells l) w
theorem cells_app (l l' : List UInt8) : Lib.byteCells l ++ Lib.byteCells l' = Lib.byteCells (l ++ l') := by simp [Lib.byteCells]
theorem writeByteC (B b : Nat) (l : List UInt8) (u : UInt8) (w : World) (h : Bu B b l w) (hl : l.length + 1 ≤ 140737488355328) (hB : B ≤ w.heap.size) : Calls Tryz.prog 89 #[.pointer (some ⟨b, 0, none⟩), .int .u8 (u.toNat : Int)] w fun e w' => e = .returned .nilIface ∧ Bu B b (l ++ [u]) w' ∧ Below B w w' ∧ Lib.OthersKept 5 (some b) w w' := by
  have C := Any.Builder_WriteByte_k lays167 extra B b (Lib.byteCells l) u.toNat w h (by rw [Lib.byteCells_length]; exact hl) hB
  refine C.mono ?_
  rintro e w' ⟨rfl, h1, h2, h3⟩
  refine ⟨rfl, .inr ?_, h2, h3⟩
  rw [← cells_app]
  exact h1
theorem writeStringC (B b : Nat) (l : List UInt8) (s : ByteArray) (w : World) (h : Bu B b l w) (hl : l.length + s.size ≤ 140737488355328) (hB : B ≤ w.heap.size) : Calls Tryz.prog 45 #[.pointer (some ⟨b, 0, none⟩), .string s] w fun e w' => e = .returned (.tuple #[.int .i64 s.size, .nilIface]) ∧ Bu B b (l ++ bs s) w' ∧ Below B w w' ∧ Lib.OthersKept 5 (some b) w w' := by
  have C := Any.Builder_WriteString_k lays166 extra B b (Lib.byteCells l) s w h (by rw [Lib.byteCells_length]; exact hl) hB
  refine C.mono ?_
  rintro e w' ⟨rfl, h1, h2, h3⟩
  refine ⟨rfl, .inr ?_, h2, h3⟩
  rw [← cells_app]
  exact h1
set_option maxRecDepth 20000 in
set_option maxHeartbeats 3200000 in
theorem writePieceC (B b : Nat) (l : List UInt8) (s : ByteArray) (n : Nat) (w : World) (h : Bu B b l w) (hn : n ≤ 4) (hs : s.size ≤ 140737488355000) (hl : l.length + n + s.size ≤ 140737488355328) (hB : B ≤ w.heap.size) :
    Calls Tryz.prog 47 #[.pointer (some ⟨b, 0, none⟩), .string s, .int .i64 n] w fun e w' => e = .returned (.tuple #[]) ∧ Bu B b (l ++ beN n s.size n ++ bs s) w' ∧ Below B w w' ∧ Lib.OthersKept 5 (some b) w w' := by
  obtain ⟨m, hm⟩ : ∃ m, s.size = m := ⟨_, rfl⟩
  have H : Hid (Bu B b l w) := h
  have HM : Hid (s.size = m) := hm
  rw [hm] at hs hl ⊢
  clear h
  go_enter Tryz.func47, Tryz.ntmps47
  go_wp2_with fail
  go_loopw [8] (fun i wr => ∃ j : Nat, i = .int .i64 j ∧ j ≤ n ∧ Hid (Bu B b (l ++ beN n m j) wr ∧ Below B w wr ∧ Lib.OthersKept 5 (some b) w wr)) (fun i _ => (n - intOf i).toNat)
  case atStart => exact ⟨0, rfl, Nat.zero_le _, by simpa [beN] using H.out, Below.refl _ _, Lib.OthersKept.refl _ _ _⟩
  case round =>
    obtain ⟨j, rfl, hj, HH⟩ := hrel
    by_cases hlt : j < n
    · have hlt' : (j : Int) < n := by omega
      have HV : (m : Int) / 2 ^ (8 * (n - 1 - j)) % 256 = ((UInt8.ofNat (m / 2 ^ (8 * (n - 1 - j)))).toNat : Int) := by
        rw [UInt8.toNat_ofNat', cast_pow]
        rfl
      have CW : Hid (Calls _ _ _ _ _) := writeByteC B b (l ++ beN n m j) (UInt8.ofNat (m / 2 ^ (8 * (n - 1 - j)))) wr HH.out.1 (by rw [List.length_append, beN_len]; omega) (Nat.le_trans hB HH.out.2.1.size)
      rw [← HV] at CW
      have FN : Hid (∀ w2, Bu B b (l ++ beN n m j ++ [UInt8.ofNat (m / 2 ^ (8 * (n - 1 - j)))]) w2 → Below B wr w2 → Lib.OthersKept 5 (some b) wr w2 → Bu B b (l ++ beN n m (j + 1)) w2 ∧ Below B w w2 ∧ Lib.OthersKept 5 (some b) w w2) := fun w2 h1 h2 h3 => ⟨by rw [beN, ← List.append_assoc]; exact h1, HH.out.2.1.trans h2, HH.out.2.2.trans h3⟩
      clear HH HV
      go_wp2_with (go_at_call 89; refine CW.out.mono ?_; rintro _ w2 ⟨rfl, h1, h2, h3⟩; have F2 : Hid _ := FN.out w2 h1 h2 h3; clear h1 h2 h3)
      go_roundw
      case rel => exact ⟨j + 1, by go_num, by omega, F2.out⟩
      case measure => simp [intOf]; omega
    · have hlt' : ¬ (j : Int) < n := by omega
      have hjn : j = n := by omega
      subst hjn
      have CW : Hid (Calls _ _ _ _ _) := writeStringC B b (l ++ beN j m j) s wr HH.out.1 (by rw [List.length_append, beN_len, HM.out]; omega) (Nat.le_trans hB HH.out.2.1.size)
      have HL : Hid (Below B w wr ∧ Lib.OthersKept 5 (some b) w wr) := HH.out.2
      clear HH
      go_wp2_with (go_at_call 45; refine CW.out.mono ?_; rintro _ w2 ⟨rfl, h1, h2, h3⟩; have F2 : Hid (Bu B b _ w2) := h1; have F3 : Hid (Below B wr w2 ∧ Lib.OthersKept 5 (some b) wr w2) := ⟨h2, h3⟩; clear h1 h2 h3)
      go_end0
      exact ⟨rfl, F2.out, HL.out.1.trans F3.out.1, HL.out.2.trans F3.out.2⟩
-- the image of records
def recB (p : Rec) : List UInt8 := beN 1 p.1.size 1 ++ bs p.1 ++ (beN 4 p.2.size 4 ++ bs p.2)
def imgB (r : List Rec) : List UInt8 := 83 :: r.flatMap recB
theorem recB_len (p : Rec) : (recB p).length = p.1.size + p.2.size + 5 := by
  simp only [recB, List.length_append, beN_len, bs_len]; omega
def isz : List Rec → Nat
  | [] => 1
  | p :: r => p.1.size + p.2.size + 5 + isz r
theorem imgB_len (r : List Rec) : (imgB r).length = isz r := by
  unfold imgB
  induction r with
  | nil => rfl
  | cons p r ih => simp only [List.flatMap_cons, List.length_cons, List.length_append, recB_len, isz] at ih ⊢; omega
theorem isz_take (r : List Rec) (j : Nat) : isz (r.take j) ≤ isz r := by
  induction r generalizing j with
  | nil => simp
  | cons p r ih =>
    cases j with
    | zero => simp [isz]; have : 1 ≤ isz r := by have := ih 0; simpa [isz] using this
              omega
    | succ j => simp only [List.take_succ_cons, isz]; have := ih j; omega
theorem isz_at (r : List Rec) (j : Nat) (p : Rec) (h : r[j]? = some p) : isz (r.take (j + 1)) = isz (r.take j) + (p.1.size + p.2.size + 5) := by
  induction r generalizing j with
  | nil => simp at h
  | cons q r ih =>
    cases j with
    | zero => simp at h; subst h; simp [isz]; omega
    | succ j => simp only [List.take_succ_cons, isz]; have := ih j (by simpa using h); omega
theorem img_next (r : List Rec) (j : Nat) (p : Rec) (h : r[j]? = some p) : imgB (r.take (j + 1)) = imgB (r.take j) ++ recB p := by
  unfold imgB
  rw [List.take_add_one, h]
  simp
theorem keysL_all (r : List Rec) : keysL ⟨#[]⟩ r = r.map (·.1) := by
  unfold keysL
  congr 1
  rw [List.filter_eq_self]
  intro p _
  simp [bs, Lib.hasPrefix]
section
variable (w : World) {ops : Array Oper} {rest : List Oper} {o : Oper} {a : Act} {Q : Exit → Act → World → Prop}
theorem wpList_look1 (hg : o.guard = none) (m x : Operand) (hop : o.op = Op.lookup 50 m x false) (b : Nat) (r : List Rec) (hm : a.eval m = .map (some b)) (hown : Mp b r w) (k d : ByteArray) (hx : a.eval x = .string k) (hk : k.size ≤ maxLen) (hd : rget k r = some d)
    (hK : wpList Tryz.prog ops Q rest (a.put o.dst (.agg #[.string d])) w) : wpList Tryz.prog ops Q (o :: rest) a w := by
  refine wpList_plain hg fun K' hK' => ?_
  obtain ⟨v, ps, hrun, hv⟩ := World.ownsMap.lookup hown law Tryz.underlying50 (zeroR w) (recE_mk (s := ByteArray.empty) (by decide)) (key_is hk)
  rw [dat_at, hd] at hv
  obtain ⟨s, rfl, hy, _⟩ := recE_inv hv
  have h1 : (DataW.lit (Lit.string (bs d)) : DataW Unit) = .lit (.string (bs s)) := congrArg Prod.fst hy
  have h2 := bs_inj (Lit.string.inj (DataW.lit.inj h1))
  subst h2
  unfold Oper.wp
  simp [execOp, hop, hm, hx, hrun, Result.andThen]
  exact hK' _ _ hK
end
end Go.Proofs.YtpcllegjnbeppaaGreat.yo

namespace Go.Proofs.YtpcllegjnbeppaaGreat.yp
open Go.RowKit Go.PlainAid Go.Maps Go.Shelf
open Go.Proofs.YtpcllegjnbeppaaGreat.ca Go.Proofs.YtpcllegjnbeppaaGreat.cb Go.Proofs.YtpcllegjnbeppaaGreat.cp Go.Proofs.YtpcllegjnbeppaaGreat.kp Go.Proofs.YtpcllegjnbeppaaGreat.ka Go.Proofs.YtpcllegjnbeppaaGreat.ya Go.Proofs.YtpcllegjnbeppaaGreat.yb Go.Proofs.YtpcllegjnbeppaaGreat.yc Go.Proofs.YtpcllegjnbeppaaGreat.yd Go.Proofs.YtpcllegjnbeppaaGreat.ye Go.Proofs.YtpcllegjnbeppaaGreat.yf Go.Proofs.YtpcllegjnbeppaaGreat.yo Go.Proofs.YtpcllegjnbeppaaGreat.sb Go.Proofs.YtpcllegjnbeppaaGreat.mc
set_option linter.unusedVariables false
set_option linter.unusedSimpArgs false
theorem mp_others {b g : Nat} {r : List Rec} {w w' : World} (h : Mp b r w) (hg : b ≠ g) (o : Lib.OthersKept 5 (some g) w w') : Mp b r w' := by
  obtain ⟨es, clock, hb, rest⟩ := h
  exact ⟨es, clock, o b _ hb (fun e => hg (Option.some.inj e)) (fun c fz e => by cases e), rest⟩
theorem own_others {B n g : Nat} {v : Value} {xs : List Value} {w w' : World} (h : w.ownsRow B 9 1 v n xs) (hg : v.ownBlock ≠ some g) (o : Lib.OthersKept 5 (some g) w w') : w'.ownsRow B 9 1 v n xs := by
  refine ⟨h.1, ?_⟩
  rcases h.2 with h2 | ⟨g', cap, cur, rfl, h2, h3, h4⟩
  · exact .inl h2
  · exact .inr ⟨g', cap, cur, rfl, h2, o g' _ h3 (fun e => hg (by rw [← e]; rfl)) (fun c fz e => by injection e with _ e _; revert e; decide), h4⟩
theorem isF_later {T u B b : Nat} {l : List Value} {w w' : World} (h : Lib.IsBuilderF T u B b l w) (k : Below w.heap.size w w') : Lib.IsBuilderF T u B b l w' := by
  have key : ∀ p, Lib.BuilderAtF T u B b p l w → Lib.BuilderAtF T u B b p l w' := by
    rintro p ⟨h1, v, h2, h3, h4⟩
    have hlt := (Array.getElem?_eq_some_iff.1 h2).1
    refine ⟨h1, v, (k.block _ hlt).trans h2, h3.kept (row := none) ⟨k.os, k.tape, k.output, k.size, fun i hi _ => k.block i hi⟩ (by by_cases e : v.ownBlock = none; exact .inl e; exact .inr e), h4⟩
  exact h.imp (key _) (key _)
theorem row_s {B n : Nat} {v : Value} {xs : List Value} {w : World} (o : w.ownsRow B 9 1 v n xs) (hn : 0 < n) : ∃ g c, v = .slice (some ⟨g, 0, none⟩) n c ∧ ∀ j, j < n → w.cell? ⟨g, j, none⟩ = xs[j]? := by
  rcases o.2 with ⟨_, h0⟩ | ⟨g, cap, cur, rfl, _, h3, h4, h5, h6, h7⟩
  · omega
  · refine ⟨g, cap, rfl, fun j hj => ?_⟩
    rw [cell_of_row _ _ j _ _ _ h3]
    have e : (cur.toList.take (n * 1))[j]? = xs[j]? := by rw [h7]
    rw [List.getElem?_take_of_lt (by omega)] at e
    rw [← e]; simp
def imageT (r : List Rec) : ByteArray := ⟨(imgB r).toArray⟩
set_option maxRecDepth 20000 in
set_option maxHeartbeats 6400000 in
theorem imageC {B g bn bd : Nat} {pv : Value} {s : S} {w : World} (h : Sr B g bn bd pv s w) (hsz : isz s.dur ≤ 140737488355000) :
    Calls Tryz.prog 15 #[.pointer (some ⟨g, 0, none⟩)] w fun e w' => e = .returned (.string (imageT s.dur)) ∧ Below w.heap.size w w' := by
  obtain ⟨r, HR⟩ : ∃ r, Hid (s.dur = r) := ⟨_, rfl⟩
  have M0 : Hid (Mp bd r w) := by rw [← HR.out]; exact h.md
  have OKr : Hid (OkR r ∧ Srt r) := by rw [← HR.out]; exact ⟨h.ok.dur, h.ok.srt⟩
  have hlr : r.length < 3518437208883 := by have := h.ok.len; rw [HR.out] at this; omega
  rw [HR.out] at hsz ⊢
  have c1 := h.row.c1
  have hg := h.row.lt
  have hbd := M0.out.lt
  have CO : Hid (∀ w, Calls _ _ _ _ _) := fun w => orNoneC g w
  obtain ⟨B0, HB⟩ : ∃ B0, B0 = w.heap.size := ⟨_, rfl⟩
  have FB : Hid (Bu w.heap.size w.heap.size [] (w.alloc (.cells #[.pointer none, .slice none 0 0] 86))) := (Lib.fresh_isBuilder 86 5 w).imp Lib.BuilderAtF.of Lib.BuilderAtF.of
  have B1 : Hid (Below w.heap.size w (w.alloc (.cells #[.pointer none, .slice none 0 0] 86))) := (Below.refl _ w).alloc (Nat.le_refl _) _
  have M1 : Hid (Mp bd r (w.alloc (.cells #[.pointer none, .slice none 0 0] 86))) := M0.out.keep (Kp.of_below (A := fun _ => False) B1.out) (fun e => e)
  have CW : Hid (Calls _ _ _ _ _) := writeStringC w.heap.size w.heap.size [] ⟨#[83]⟩ _ FB.out (by decide) (by simp)
  have hne : bd ≠ w.heap.size := by omega
  have CK : Hid (∀ w1, Mp bd r w1 → Calls _ _ _ _ _) := fun w1 m1 => keysM bd r ⟨#[]⟩ w1 m1 (by omega)
  have CKL : Hid (keysL ⟨#[]⟩ r = r.map (·.1)) := keysL_all r
  rw [CKL.out] at CK
  have hne0 : Hid (bd ≠ w.heap.size) := hne
  clear h hne hg
  go_enter Tryz.func15, Tryz.ntmps15
  go_upto_region 5 with (first | (go_at_call 43; refine (CO.out _).mono ?_; rintro _ _ ⟨rfl, hw⟩; rw [hw]; clear hw) | (go_at_call 45; refine CW.out.mono ?_; rintro _ w1 ⟨rfl, h1, h2, h3⟩; have U1 : Hid (Bu w.heap.size w.heap.size [83] w1) := h1; have L1 : Hid (Below w.heap.size w w1) := B1.out.trans h2; have N1 : Hid (Mp bd r w1) := mp_others M1.out hne0.out h3; clear h1 h2 h3) | (go_at_call 46; refine (CK.out _ N1.out).mono ?_; rintro _ w2 ⟨v, rfl, h1, h2⟩; have O2 : Hid (World.ownsRow _ _ _ _ _ _ _) := h1; have L2 : Hid (Below w1.heap.size w1 w2) := h2; clear h1 h2; obtain ⟨va, vc, hv⟩ := own_formS O2.out; subst hv) | go_in)
  have hw1 : w.heap.size < w1.heap.size := by
    have h1 := U1.out
    rcases h1 with ⟨_, v, h2, _⟩ | ⟨_, v, h2, _⟩ <;> exact (Array.getElem?_eq_some_iff.1 h2).1
  obtain ⟨n, HN⟩ : ∃ n, Hid (r.length = n) := ⟨_, rfl⟩
  have hrl : (r.map (·.1)).length = n := by rw [List.length_map, HN.out]
  have P2 : Hid (w2.ownsRow w1.heap.size 9 1 (.slice va n vc) n ((r.map (·.1)).map Value.string)) := by have := O2.out; rw [hrl] at this; exact this
  have HV : Hid (Value.ownBlock (.slice va n vc) ≠ some w.heap.size) := fun e => by have := (P2.out.lt _ e).1; omega
  have hn : n < 3518437208883 := by have := HN.out; omega
  simp only [List.length_map, HN.out]
  have ST : Hid (Bu w.heap.size w.heap.size (imgB (r.take 0)) w2 ∧ Below w.heap.size w w2 ∧ Mp bd r w2 ∧ w2.ownsRow w1.heap.size 9 1 (.slice va n vc) n ((r.map (·.1)).map Value.string)) := ⟨isF_later U1.out L2.out, L1.out.trans (L2.out.mono (Nat.le_of_lt hw1)), N1.out.keep (Kp.of_below (A := fun _ => False) L2.out) (fun e => e), P2.out⟩
  clear U1 L1 N1 O2 L2 P2 CW CK CO FB B1 M1 M0 hrl
  go_wp2_with fail
  go_loopw [16] (fun i wr => ∃ j : Nat, i = .int .i64 j ∧ j ≤ n ∧ Hid (Bu w.heap.size w.heap.size (imgB (r.take j)) wr ∧ Below w.heap.size w wr ∧ Mp bd r wr ∧ wr.ownsRow w1.heap.size 9 1 (.slice va n vc) n ((r.map (·.1)).map Value.string))) (fun i _ => (n - intOf i).toNat)
  case atStart => exact ⟨0, rfl, Nat.zero_le _, ST.out⟩
  case round =>
    clear ST
    obtain ⟨j, rfl, hj, HH⟩ := hrel
    by_cases hlt : j < n
    · have hlt' : (j : Int) < n := by omega
      obtain ⟨x, hx⟩ : ∃ x, r[j]? = some x := ⟨_, List.getElem?_eq_getElem (by have := HN.out; omega)⟩
      obtain ⟨q, c, e, hc⟩ := row_s HH.out.2.2.2 (by omega)
      injection e with e1 _ e2
      subst e1 e2
      have d0 : wr.cell? ⟨q, j, none⟩ = some (.string x.1) := by rw [hc j hlt]; simp [hx]
      have hxo := OKr.out.1 x (List.mem_of_getElem? hx)
      have hgx : rget x.1 r = some x.2 := (get_some OKr.out.2).2 (List.mem_of_getElem? hx)
      have hi1 := isz_at r j x hx
      have hi2 := isz_take r (j + 1)
      have hi3 := imgB_len (r.take j)
      obtain ⟨xk, xd⟩ := x
      simp only at d0 hxo hgx hi1
      have hB : w.heap.size ≤ wr.heap.size := HH.out.2.1.size
      have C1 : Hid (Calls _ _ _ _ _) := writePieceC w.heap.size w.heap.size (imgB (r.take j)) xk 1 wr HH.out.1 (by omega) (by omega) (by rw [hi3]; omega) hB
      have C2 : Hid (∀ w3, Bu w.heap.size w.heap.size (imgB (r.take j) ++ beN 1 xk.size 1 ++ bs xk) w3 → w.heap.size ≤ w3.heap.size → Calls _ _ _ _ _) := fun w3 h3 hs3 => writePieceC w.heap.size w.heap.size (imgB (r.take j) ++ beN 1 xk.size 1 ++ bs xk) xd 4 w3 h3 (by omega) (by omega) (by rw [List.length_append, List.length_append, hi3, beN_len, bs_len]; omega) hs3
      have F1 : Hid (∀ w3, Below w.heap.size wr w3 → Lib.OthersKept 5 (some w.heap.size) wr w3 → Below w.heap.size w w3 ∧ Mp bd r w3 ∧ w3.ownsRow w1.heap.size 9 1 (.slice (some ⟨q, 0, none⟩) n vc) n ((r.map (·.1)).map Value.string)) := fun w3 h1 h2 => ⟨HH.out.2.1.trans h1, mp_others HH.out.2.2.1 hne0.out h2, own_others HH.out.2.2.2 HV.out h2⟩
      have F2 : Hid (∀ w3 w4, (Below w.heap.size w w3 ∧ Mp bd r w3 ∧ w3.ownsRow w1.heap.size 9 1 (.slice (some ⟨q, 0, none⟩) n vc) n ((r.map (·.1)).map Value.string)) → Bu w.heap.size w.heap.size (imgB (r.take j) ++ beN 1 xk.size 1 ++ bs xk ++ beN 4 xd.size 4 ++ bs xd) w4 → Below w.heap.size w3 w4 → Lib.OthersKept 5 (some w.heap.size) w3 w4 → Bu w.heap.size w.heap.size (imgB (r.take (j + 1))) w4 ∧ Below w.heap.size w w4 ∧ Mp bd r w4 ∧ w4.ownsRow w1.heap.size 9 1 (.slice (some ⟨q, 0, none⟩) n vc) n ((r.map (·.1)).map Value.string)) := fun w3 w4 h0 hb h1 h2 => ⟨by rw [img_next r j _ hx]; unfold recB; simp only [List.append_assoc] at hb ⊢; exact hb, h0.1.trans h1, mp_others h0.2.1 hne0.out h2, own_others h0.2.2 HV.out h2⟩
      have hkm : xk.size ≤ maxLen := by unfold maxLen; omega
      have hfld : ∀ w : World, (Instr.field 95 (.agg #[.string xd]) 0).run Tryz.prog w = .ok (.string xd) w := fun w => by kernel_rfl
      clear HH hc hx hi1 hi2 hi3 hxo
      go_wp2_with (first | (go_at_call 47; refine C1.out.mono ?_; rintro _ w3 ⟨rfl, h1, h2, h3⟩; have G3 : Hid _ := F1.out w3 h2 h3; have U3 : Hid (Bu _ _ _ w3) := h1; clear h1 h2 h3 C1) | (at_lookup; refine wpList_look1 _ rfl _ _ rfl bd r rfl G3.out.2.1 xk xd rfl hkm hgx ?_) | (go_at_call 47; refine (C2.out _ U3.out G3.out.1.size).mono ?_; rintro _ w4 ⟨rfl, h1, h2, h3⟩; have G4 : Hid _ := F2.out w3 w4 G3.out h1 h2 h3; clear h1 h2 h3 C2) | go_in)
      go_roundw
      case rel => exact ⟨j + 1, by go_num, by omega, G4.out⟩
      case measure => simp [intOf]; omega
    · have hlt' : ¬ (j : Int) < n := by omega
      have hjn : j = n := by omega
      subst hjn
      have hB : w.heap.size ≤ wr.heap.size := HH.out.2.1.size
      have U5 : Hid (Bu w.heap.size w.heap.size (imgB r) wr) := by have := HH.out.1; rw [← HN.out, List.take_length] at this; exact this
      have CS : Hid (Calls Tryz.prog 48 #[.pointer (some ⟨w.heap.size, 0, none⟩)] wr fun e w' => e = .returned (.string (imageT r)) ∧ Below w.heap.size wr w') := (Any.Builder_String_any_f lays169 extra w.heap.size w.heap.size (imgB r) wr U5.out hB).mono fun e w' ⟨h1, _, h3⟩ => ⟨h1, h3⟩
      have HL : Hid (Below w.heap.size w wr) := HH.out.2.1
      clear HH U5
      go_wp2_with (go_at_call 48; refine CS.out.mono ?_; rintro _ w2 ⟨rfl, h1⟩; have F3 : Hid (Below w.heap.size wr w2) := h1; clear h1)
      go_ret
      exact ⟨rfl, HL.out.trans F3.out⟩
end Go.Proofs.YtpcllegjnbeppaaGreat.yp

namespace Go.Proofs.YtpcllegjnbeppaaGreat.yg
open Go.RowKit Go.PlainAid Go.Maps Go.Shelf
open Go.Proofs.YtpcllegjnbeppaaGreat.ca Go.Proofs.YtpcllegjnbeppaaGreat.cb Go.Proofs.YtpcllegjnbeppaaGreat.cp Go.Proofs.YtpcllegjnbeppaaGreat.kp Go.Proofs.YtpcllegjnbeppaaGreat.ka Go.Proofs.YtpcllegjnbeppaaGreat.ya Go.Proofs.YtpcllegjnbeppaaGreat.yb Go.Proofs.YtpcllegjnbeppaaGreat.yc Go.Proofs.YtpcllegjnbeppaaGreat.yd Go.Proofs.YtpcllegjnbeppaaGreat.ye Go.Proofs.YtpcllegjnbeppaaGreat.yf Go.Proofs.YtpcllegjnbeppaaGreat.sb Go.Proofs.YtpcllegjnbeppaaGreat.mc
set_option linter.unusedVariables false
set_option linter.unusedSimpArgs false
structure Sq (B g bn bd : Nat) (pv : Value) (u : Nat) (rn rd : List Rec) (n : Nat) (xs : List Value) (s : S) (w : World) : Prop where
  row : St g bn bd pv u s w
  mn : Mp bn rn w
  md : Mp bd rd w
  ne : bn ≠ bd
  pr : w.ownsRow B 100 3 pv n xs
  low : B ≤ g ∧ B ≤ bn ∧ B ≤ bd
theorem sq_of {B g bn bd : Nat} {pv : Value} {s : S} {w : World} (h : Sr B g bn bd pv s w) : Sq B g bn bd pv (tot (now s)) (now s) s.dur s.pend.length (wcs bd s.pend) s w := ⟨h.row, h.mn, h.md, h.ne, h.pr, h.low⟩
theorem sr_of {B g bn bd : Nat} {pv : Value} {s : S} {w : World} (h : Sq B g bn bd pv (tot (now s)) (now s) s.dur s.pend.length (wcs bd s.pend) s w) (o : OkS s) : Sr B g bn bd pv s w := ⟨h.row, h.mn, h.md, h.ne, h.pr, h.low, o⟩
theorem Sq.keep {A : Nat → Prop} {B g bn bd u n : Nat} {pv : Value} {rn rd : List Rec} {xs : List Value} {s : S} {w w' : World} (h : Sq B g bn bd pv u rn rd n xs s w) (k : Kp A w w') (hn : ∀ j, Fr g bn bd pv j → ¬ A j) : Sq B g bn bd pv u rn rd n xs s w' :=
  ⟨h.row.keep k (hn g (.inl rfl)), h.mn.keep k (hn bn (.inr (.inl rfl))), h.md.keep k (hn bd (.inr (.inr (.inl rfl)))), h.ne, own_kp h.pr k (fun j hj => hn j (.inr (.inr (.inr hj)))), h.low⟩
theorem Sq.later {B g bn bd u n : Nat} {pv : Value} {rn rd : List Rec} {xs : List Value} {s : S} {w w' : World} (h : Sq B g bn bd pv u rn rd n xs s w) (hb : Below w.heap.size w w') : Sq B g bn bd pv u rn rd n xs s w' := h.keep (Kp.of_below (A := fun _ => False) hb) (fun _ _ e => e)
theorem Sq.nm {B g bn bd u n : Nat} {pv : Value} {rn rd rn' : List Rec} {xs : List Value} {s : S} {w w' : World} (h : Sq B g bn bd pv u rn rd n xs s w) (m : Mp bn rn' w') (k : Kp (fun k => k = bn) w w') : Sq B g bn bd pv u rn' rd n xs s w' :=
  ⟨h.row.keep k (fun e => h.mn.ne h.row e.symm), m, h.md.keep k (fun e => h.ne e.symm), h.ne, own_kp h.pr k (fun j hj e => by subst e; exact own_map h.pr h.mn hj), h.low⟩
theorem Sq.dm {B g bn bd u n : Nat} {pv : Value} {rn rd rd' : List Rec} {xs : List Value} {s : S} {w w' : World} (h : Sq B g bn bd pv u rn rd n xs s w) (m : Mp bd rd' w') (k : Kp (fun k => k = bd) w w') : Sq B g bn bd pv u rn rd' n xs s w' :=
  ⟨h.row.keep k (fun e => h.md.ne h.row e.symm), h.mn.keep k h.ne, m, h.ne, own_kp h.pr k (fun j hj e => by subst e; exact own_map h.pr h.md hj), h.low⟩
theorem Sq.st {B g bn bd u u' n : Nat} {pv : Value} {rn rd : List Rec} {xs : List Value} {s s' : S} {w w' : World} (h : Sq B g bn bd pv u rn rd n xs s w) (m : St g bn bd pv u' s' w') (k : Kp (fun k => k = g) w w') : Sq B g bn bd pv u' rn rd n xs s' w' :=
  ⟨m, h.mn.keep k (h.mn.ne h.row), h.md.keep k (h.md.ne h.row), h.ne, own_kp h.pr k (fun j hj e => by subst e; exact own_tag h.pr h.row (by decide) hj), h.low⟩
theorem Sq.u {B g bn bd u n : Nat} {pv : Value} {rn rd : List Rec} {xs : List Value} {s : S} {w : World} (h : Sq B g bn bd pv u rn rd n xs s w) (v : Nat) : Sq B g bn bd pv v rn rd n xs s (w.setCell ⟨g, 3, none⟩ (.int .i64 v)) := h.st (h.row.set3 v) (Kp.setCell _ _ _ _ rfl)
-- another pending row
theorem Sq.pv {B g bn bd u n n' : Nat} {pv pv' : Value} {rn rd : List Rec} {xs xs' : List Value} {s : S} {w : World} (h : Sq B g bn bd pv u rn rd n xs s w) (o : w.ownsRow B 100 3 pv' n' xs') : Sq B g bn bd pv' u rn rd n' xs' s (w.setCell ⟨g, 2, none⟩ pv') := by
  have k : Kp (fun k => k = g) w (w.setCell ⟨g, 2, none⟩ pv') := Kp.setCell _ _ _ _ rfl
  exact ⟨h.row.set2 pv', h.mn.keep k (h.mn.ne h.row), h.md.keep k (h.md.ne h.row), h.ne, own_kp o k (fun j hj e => by subst e; exact own_tag o h.row (by decide) hj), h.low⟩
theorem fr_g {g bn bd : Nat} {pv : Value} {w w' : World} (k : Kp (fun k => k = g) w w') : Kp (Fr g bn bd pv) w w' := k.mono fun _ e => .inl e
theorem fr_n {g bn bd : Nat} {pv : Value} {w w' : World} (k : Kp (fun k => k = bn) w w') : Kp (Fr g bn bd pv) w w' := k.mono fun _ e => .inr (.inl e)
theorem fr_d {g bn bd : Nat} {pv : Value} {w w' : World} (k : Kp (fun k => k = bd) w w') : Kp (Fr g bn bd pv) w w' := k.mono fun _ e => .inr (.inr (.inl e))
theorem info_w : (Tryz.prog.info? 100).map (fun i => (i.zero, i.size, i.bytes)) = some (some (.agg #[.nilFunc, .string ByteArray.empty, .string ByteArray.empty]), 3, 40) := by kernel_rfl
set_option maxHeartbeats 1600000 in
theorem storeOfC (B b : Nat) (r : List Rec) (c : Int) (w : World) (h : Mp b r w) (hok : OkR r) (hl : r.length < 3518437208883) (hc0 : 0 ≤ c) (hc1 : c ≤ 1073741824) (hB : B ≤ b) :
    Calls Tryz.prog 23 #[.map (some b), .int .i64 c] w fun e w' => ∃ g bn, e = .returned (.pointer (some ⟨g, 0, none⟩)) ∧ Sr B g bn b (.slice none 0 0) ⟨c, r, [], 0, false, 0⟩ w' ∧ Below w.heap.size w w' ∧ w.heap.size ≤ g ∧ w.heap.size ≤ bn := by
  have hb := h.lt
  have C1 : Hid (Calls _ _ _ _ _) := mc.cloneM b r w h
  have C2 : Hid (∀ w', Below w.heap.size w w' → Calls _ _ _ _ _) := fun w' hb' => totalM b r w' (h.keep (Kp.of_below (A := fun _ => False) hb') (fun e => e)) hok (by omega)
  have HH : Hid (∀ w1 w2 : World, Below w.heap.size w w1 → Mp w.heap.size r w1 → Below w1.heap.size w1 w2 → Sr B w2.heap.size w.heap.size b (.slice none 0 0) ⟨c, r, [], 0, false, 0⟩ (w2.alloc (.cells #[.map (some w.heap.size), .map (some b), .slice none 0 0, .int .i64 (tot r : Nat), .int .i64 c, .int .i64 0, .bool false, .int .i64 0] 80)) ∧ Below w.heap.size w (w2.alloc (.cells #[.map (some w.heap.size), .map (some b), .slice none 0 0, .int .i64 (tot r : Nat), .int .i64 c, .int .i64 0, .bool false, .int .i64 0] 80)) ∧ w.heap.size ≤ w2.heap.size) := fun w1 w2 b1 m1 b2 => by
    have hs1 := b1.size
    have hs2 := b2.size
    have b3 : Below w2.heap.size w2 (w2.alloc (.cells #[.map (some w.heap.size), .map (some b), .slice none 0 0, .int .i64 (tot r : Nat), .int .i64 c, .int .i64 0, .bool false, .int .i64 0] 80)) := (Below.refl _ w2).alloc (Nat.le_refl _) _
    have bb := over (over b1 b2) b3
    have hm1 := m1.lt
    refine ⟨⟨(MapKept.heap_alloc w2 _).1, ?_, ?_, by omega, World.ownsRow_nil _ _ _ _, by omega, ?_⟩, bb, by omega⟩
    · exact (m1.keep (Kp.of_below (A := fun _ => False) b2) (fun e => e)).keep (Kp.of_below (A := fun _ => False) b3) (fun e => e)
    · exact h.keep (Kp.of_below (A := fun _ => False) bb) (fun e => e)
    · exact ⟨hok, h.srt, (by intro x hx; cases hx), hc0, hc1, by simp, by simp, by simpa using hl⟩
  clear h hok
  go_enter Tryz.func23, Tryz.ntmps23
  go_wp2_with (first | (go_at_call 56; refine C1.out.mono ?_; rintro _ w1 ⟨rfl, m1, b1⟩; have M1 : Hid (Mp w.heap.size r w1) := m1; have B1 : Hid (Below w.heap.size w w1) := b1; clear m1 b1) | (go_at_call 57; refine (C2.out _ B1.out).mono ?_; rintro _ w2 ⟨rfl, b2⟩; have B2 : Hid (Below w1.heap.size w1 w2) := b2; clear b2) | go_in)
  go_ret
  obtain ⟨h1, h2, h3⟩ := HH.out w1 w2 B1.out M1.out B2.out
  exact ⟨_, _, rfl, h1, h2, h3, Nat.le_refl _⟩
theorem newC (c : Int) (w : World) (hc : 0 ≤ c ∧ c ≤ 1073741824) : Calls Tryz.prog 5 #[.int .i64 c] w fun e w' => ∃ g bn bd, e = .returned (.pointer (some ⟨g, 0, none⟩)) ∧ Sr w.heap.size g bn bd (.slice none 0 0) ⟨c, [], [], 0, false, 0⟩ w' ∧ Below w.heap.size w w' := by
  have CC : Hid (∀ w, Calls _ _ _ _ _) := fun w => capC c w
  have hmm := @run_makeMap Tryz.prog
  rw [decide_eq_true hc] at CC
  have hM : Mp w.heap.size [] (w.alloc (.map #[] 0)) := World.ownsMap_made _ _ _ _
  have C2 : Hid (Calls _ _ _ _ _) := storeOfC w.heap.size w.heap.size [] c (w.alloc (.map #[] 0)) hM (by intro p hp; cases hp) (by decide) hc.1 hc.2 (Nat.le_refl _)
  have HB : Hid (Below w.heap.size w (w.alloc (.map #[] 0))) := (Below.refl _ w).alloc (Nat.le_refl _) _
  clear hc hM
  go_enter Tryz.func5, Tryz.ntmps5
  go_wp2_with (first | (go_at_call 22; refine (CC.out _).mono ?_; rintro _ _ ⟨rfl, hw⟩; rw [hw]; clear hw) | (go_at_call 23; refine C2.out.mono ?_; rintro _ w2 ⟨g, bn, rfl, h2, b2, _, _⟩; have H2 : Hid (Sr _ _ _ _ _ _ _) := h2; have B2 : Hid (Below _ _ _) := b2; clear h2 b2) | go_in)
  go_ret
  exact ⟨g, bn, w.heap.size, rfl, H2.out, over HB.out B2.out⟩
theorem newNo (c : Int) (w : World) (hc : ¬ (0 ≤ c ∧ c ≤ 1073741824)) : Calls Tryz.prog 5 #[.int .i64 c] w fun e w' => e = .returned (.pointer none) ∧ w' = w := by
  have CC : Hid (∀ w, Calls _ _ _ _ _) := fun w => capC c w
  rw [decide_eq_false hc] at CC
  clear hc
  go_enter Tryz.func5, Tryz.ntmps5
  go_wp2_with (first | (go_at_call 22; refine (CC.out _).mono ?_; rintro _ _ ⟨rfl, hw⟩; rw [hw]; clear hw) | go_in)
  go_ret
  exact ⟨rfl, rfl⟩
-- a call of counts amid a region that draws its order
theorem step_counts {ops : Array Oper} {o : Oper} {a : Act} {w : World} {K : Act → World → Prop} {Q : Exit → Act → World → Prop} {E : Prop} (hg : o.guard = none) (k l d : Nat)
    (hop : o.op = .call { callee := .value (.func 76), args := #[.tmp k, .tmp l], argTypes := #[50, 9] }) (hd : o.dst = some d) (b : Nat) (r : List Rec) (x : ByteArray)
    (hy : a.tmps[k]?.getD undef = .map (some b)) (hy2 : a.tmps[l]?.getD undef = .string x) (HR : Hid (Mp b r w ∧ x.size ≤ 140737488355328 ∧ OkR r)) (n : Nat) (HN : Hid (at0 x r = n))
    (hK : ∀ w', Below w.heap.size w w' → K { tmps := a.tmps.setIfInBounds d (.int .i64 n), defers := a.defers } w') :
    if Region.wanted o (yielded ops a.tmps) = true then Oper.wp Tryz.prog o a w K Q else E := by
  have hw : Region.wanted o (yielded ops a.tmps) = true := by simp [Region.wanted, hg]
  rw [if_pos hw]
  have C := countsM b r x w HR.out.1 HR.out.2.1 HR.out.2.2
  rw [HN.out] at C
  have HKK : Hid _ := hK
  clear hK HR HN
  unfold Oper.wp execOp
  simp only [hop]
  go_simp
  refine C.mono ?_
  rintro e w' ⟨rfl, h1⟩
  exact HKK.out _ h1
end Go.Proofs.YtpcllegjnbeppaaGreat.yg

namespace Go.Proofs.YtpcllegjnbeppaaGreat.yh
open Go.RowKit Go.PlainAid Go.Maps Go.Shelf
open Go.Proofs.YtpcllegjnbeppaaGreat.ca Go.Proofs.YtpcllegjnbeppaaGreat.cb Go.Proofs.YtpcllegjnbeppaaGreat.cp Go.Proofs.YtpcllegjnbeppaaGreat.kp Go.Proofs.YtpcllegjnbeppaaGreat.ka Go.Proofs.YtpcllegjnbeppaaGreat.ya Go.Proofs.YtpcllegjnbeppaaGreat.yb Go.Proofs.YtpcllegjnbeppaaGreat.yc Go.Proofs.YtpcllegjnbeppaaGreat.yd Go.Proofs.YtpcllegjnbeppaaGreat.ye Go.Proofs.YtpcllegjnbeppaaGreat.yf Go.Proofs.YtpcllegjnbeppaaGreat.yg Go.Proofs.YtpcllegjnbeppaaGreat.sb Go.Proofs.YtpcllegjnbeppaaGreat.mc
set_option linter.unusedVariables false
set_option linter.unusedSimpArgs false
def tb (rd rn : List Rec) (k : ByteArray) : List Rec := match rget k rd with | some d => put k d rn | none => del k rn
theorem at_put (k d : ByteArray) (r : List Rec) (h : Srt r) : at0 k (put k d r) = cnt (k, d) := by unfold at0; rw [get_put_same h]
theorem at_del (k : ByteArray) (r : List Rec) : at0 k (del k r) = 0 := by unfold at0; rw [get_del_same]
set_option maxRecDepth 20000 in
set_option maxHeartbeats 6400000 in
theorem takeBackC {B g bn bd n : Nat} {pv : Value} {rn rd : List Rec} {xs : List Value} {s : S} {w : World} (h : Sq B g bn bd pv (tot rn) rn rd n xs s w) (k : ByteArray) (hk : k.size ≤ 140737488355328) (on : OkR rn) (od : OkR rd) (ln : rn.length < 8000000000000) :
    Calls Tryz.prog 85 #[.pointer (some ⟨g, 0, none⟩), .string k] w fun e w' => e = .returned (.tuple #[]) ∧ Sq B g bn bd pv (tot (tb rd rn k)) (tb rd rn k) rd n xs s w' ∧ Kp (Fr g bn bd pv) w w' := by
  have sn := h.mn.srt
  have td := tot_del k rn sn
  have tt := on.tot
  have H : Hid (Sq B g bn bd pv (tot rn) rn rd n xs s w) := h
  have hkm : k.size ≤ maxLen := by unfold maxLen; omega
  obtain ⟨T, HT⟩ : ∃ T, Hid (tot rn = T) := ⟨_, rfl⟩
  obtain ⟨a, HA⟩ : ∃ a, Hid (at0 k rn = a) := ⟨_, rfl⟩
  obtain ⟨D, HD⟩ : ∃ D, Hid (tot (del k rn) = D) := ⟨_, rfl⟩
  rw [HT.out, HA.out, HD.out] at td
  rw [HT.out] at tt H
  have hwr : IntKind.i64.wrap ((T : Int) - (a : Int)) = (D : Int) := by
    rw [show (T : Int) - (a : Int) = (D : Int) by omega]
    exact wrap_is _ (by omega)
  have hDb : D ≤ 8389248000000000000 := by omega
  clear td tt
  have c3 := H.out.row.c3
  have c0 := H.out.row.c0
  have f3 := H.out.row.fz 3
  have HR : Hid (Mp bn rn w.drew ∧ k.size ≤ 140737488355328 ∧ OkR rn) := ⟨H.out.mn, hk, on⟩
  have FK : Hid (∀ w1, Below w.drew.heap.size w.drew w1 → Sq B g bn bd pv T rn rd n xs s w1 ∧ Kp (Fr g bn bd pv) w w1) := fun w1 b1 => by
    have b1' : Below w.heap.size w w1 := ⟨b1.os, b1.tape, b1.output, b1.size, b1.block⟩
    exact ⟨H.out.later b1', Kp.of_below b1'⟩
  have HN1 : Hid (at0 k (tb rd rn k) + D = tot (tb rd rn k) ∧ OkR (tb rd rn k) ∧ at0 k (tb rd rn k) ≤ 1048656) := by
    have e : at0 k (tb rd rn k) + D = tot (tb rd rn k) ∧ OkR (tb rd rn k) := by
      unfold tb
      cases hg : rget k rd with
      | none => exact ⟨by rw [at_del, HD.out]; omega, on.del⟩
      | some d =>
        have h1 := tot_put k d rn sn
        have h2 := tot_del k rn sn
        rw [HD.out] at h2
        have h3 := od.get hg
        exact ⟨by simp only; rw [at_put k d rn sn]; omega, on.put h3.1 h3.2.1 h3.2.2⟩
    exact ⟨e.1, e.2, at0_le e.2⟩
  clear h
  go_enter Tryz.func85, Tryz.ntmps85
  go_upto_region 0 with fail
  go_cut [16] (fun c wx => Hid (Sq B g bn bd pv D rn rd n xs s wx ∧ Kp (Fr g bn bd pv) w wx))
  case first =>
    go_region_law ((first | (have zz := HR.out; refine step_counts (by rfl) 13 14 15 (by rfl) (by rfl) bn rn k (by simp [Act.put]) (by simp [Act.put]) HR a HA ?_; intro w1 b1; have F1 : Hid _ := FK.out w1 b1; have c31 := F1.out.1.row.c3; have c01 := F1.out.1.row.c0; have f31 := F1.out.1.row.fz 3; clear b1 zz HR)))
    all_goals (go_wp2; go_meet; exact ⟨F1.out.1.u D, F1.out.2.trans (fr_g (Kp.setCell _ _ _ _ rfl))⟩)
  case rest =>
    have HC : Hid _ := hcut.out
    clear hcut c3 c0 f3 HR FK hwr HA H
    have c1 := HC.out.1.row.c1
    have HMd : Hid (Mp bd rd wc) := HC.out.1.md
    have c0 := HC.out.1.row.c0
    obtain ⟨q, HQ⟩ : ∃ q, Hid (at0 k (tb rd rn k) = q) := ⟨_, rfl⟩
    obtain ⟨T2, HT2⟩ : ∃ T2, Hid (tot (tb rd rn k) = T2) := ⟨_, rfl⟩
    have hT2 : q + D = T2 ∧ q ≤ 1048656 := by have := HN1.out; rw [HQ.out, HT2.out] at this; exact ⟨this.1, this.2.2⟩
    have hwr : IntKind.i64.wrap ((D : Int) + (q : Int)) = (T2 : Int) := by
      rw [show (D : Int) + (q : Int) = (T2 : Int) by omega]
      exact wrap_is _ (by omega)
    clear hT2
    have FIN : Hid (∀ w2, Sq B g bn bd pv D (tb rd rn k) rd n xs s w2 → Kp (Fr g bn bd pv) w w2 → (Mp bn (tb rd rn k) w2.drew ∧ k.size ≤ 140737488355328 ∧ OkR (tb rd rn k)) ∧ (w2.cell? ⟨g, 3, none⟩ = some (.int .i64 D) ∧ w2.cell? ⟨g, 0, none⟩ = some (.map (some bn)) ∧ w2.frozen? ⟨g, 3, none⟩ = false) ∧ ∀ w3, Below w2.drew.heap.size w2.drew w3 → Sq B g bn bd pv D (tb rd rn k) rd n xs s w3 ∧ Kp (Fr g bn bd pv) w w3) := fun w2 h2 k2 => by
      refine ⟨⟨h2.mn, hk, HN1.out.2.1⟩, ⟨h2.row.c3, h2.row.c0, h2.row.fz 3⟩, fun w3 b3 => ?_⟩
      have b3' : Below w2.heap.size w2 w3 := ⟨b3.os, b3.tape, b3.output, b3.size, b3.block⟩
      exact ⟨h2.later b3', k2.trans (Kp.of_below b3')⟩
    obtain ⟨ob, HO⟩ : ∃ ob, Hid (rget k rd = ob) := ⟨_, rfl⟩
    clear HN1 HT
    cases ob with
    | none =>
      have HE : Hid (tb rd rn k = del k rn) := by show _ = _; unfold tb; rw [HO.out]
      have HX : Hid (∀ o, Sq B g bn bd pv D rn rd n xs s (wc.alloc o) ∧ Kp (Fr g bn bd pv) w (wc.alloc o)) := fun o => ⟨HC.out.1.later ((Below.refl _ wc).alloc (Nat.le_refl _) _), HC.out.2.trans (Kp.of_below ((Below.refl _ wc).alloc (Nat.le_refl _) _))⟩
      go_upto_region 4 with (first | (at_lookup; refine wpList_look _ rfl _ _ rfl bd rd rfl HMd.out k rfl hkm ?_; rw [HO.out]) | go_in)
      have HX1 : Hid _ := HX.out (.cells #[.string ByteArray.empty] 95)
      have c0' := HX1.out.1.row.c0
      clear HX HC c1 HMd
      go_upto_region 5 with (first | (at_delete; refine wpList_cut _ rfl _ _ rfl bn rn rfl HX1.out.1.mn k rfl hkm ?_; intro w1 h1 k1; have F1 : Hid (Sq B g bn bd pv D (tb rd rn k) rd n xs s w1 ∧ Kp (Fr g bn bd pv) w w1) := ⟨by rw [HE.out]; exact HX1.out.1.nm h1 k1, HX1.out.2.trans (fr_n k1)⟩; clear h1 k1) | go_in)
      obtain ⟨hr, hcs, hw3⟩ := FIN.out w1 F1.out.1 F1.out.2
      have HR : Hid _ := hr
      have FK : Hid _ := hw3
      obtain ⟨c31, c01, f31⟩ := hcs
      clear hr hw3 HE c0 c0' HX1 FIN HO
      go_region_law ((first | (have zz := HR.out; refine step_counts (by rfl) 47 48 49 (by rfl) (by rfl) bn (tb rd rn k) k (by simp [Act.put]) (by simp [Act.put]) HR q HQ ?_; intro w3 b3; have F3 : Hid _ := FK.out w3 b3; have c33 := F3.out.1.row.c3; have c03 := F3.out.1.row.c0; have f33 := F3.out.1.row.fz 3; clear b3 zz HR)))
      all_goals (go_wp2; go_end0; exact ⟨rfl, by rw [HT2.out]; exact F3.out.1.u T2, F3.out.2.trans (fr_g (Kp.setCell _ _ _ _ rfl))⟩)
    | some d =>
      have HE : Hid (tb rd rn k = put k d rn) := by show _ = _; unfold tb; rw [HO.out]
      have hdm : d.size ≤ maxLen := by have := (od.get HO.out).2.2; unfold maxLen; omega
      have hlm : rn.length < maxLen := by unfold maxLen; omega
      have HX : Hid (∀ o, Sq B g bn bd pv D rn rd n xs s (wc.alloc o) ∧ Kp (Fr g bn bd pv) w (wc.alloc o)) := fun o => ⟨HC.out.1.later ((Below.refl _ wc).alloc (Nat.le_refl _) _), HC.out.2.trans (Kp.of_below ((Below.refl _ wc).alloc (Nat.le_refl _) _))⟩
      go_upto_region 3 with (first | (at_lookup; refine wpList_look _ rfl _ _ rfl bd rd rfl HMd.out k rfl hkm ?_; rw [HO.out]) | go_in)
      have HX1 : Hid _ := HX.out (.cells #[.string d] 95)
      have c0' := HX1.out.1.row.c0
      have HR0 : Hid (Mp bn rn (wc.alloc (.cells #[.string d] 95)).drew ∧ rn.length < maxLen ∧ k.size ≤ maxLen ∧ d.size ≤ maxLen) := ⟨HX1.out.1.mn, hlm, hkm, hdm⟩
      have FK0 : Hid (∀ w1, Mp bn (put k d rn) w1 → Kp (fun k => k = bn) (wc.alloc (.cells #[.string d] 95)).drew w1 → Sq B g bn bd pv D (tb rd rn k) rd n xs s w1 ∧ Kp (Fr g bn bd pv) w w1) := fun w1 h1 k1 => by
        have k1' : Kp (fun k => k = bn) (wc.alloc (.cells #[.string d] 95)) w1 := ⟨k1.os, k1.tape, k1.output, k1.size, k1.block⟩
        exact ⟨by rw [HE.out]; exact HX1.out.1.nm h1 k1', HX1.out.2.trans (fr_n k1')⟩
      clear HX HC c1 HMd HE
      go_cut [33] (fun c wx => Hid (Sq B g bn bd pv D (tb rd rn k) rd n xs s wx ∧ Kp (Fr g bn bd pv) w wx))
      case first =>
        obtain ⟨w1, hrun, r1, r2⟩ := World.ownsMap.store HR0.out.1 law Tryz.underlying50 HR0.out.2.1 (key_is HR0.out.2.2.1) (recE_mk HR0.out.2.2.2)
        rw [dat_put] at r1
        have F1 : Hid _ := FK0.out w1 (own_exact r1) (kp_turn r2)
        clear r1 r2
        go_region
        all_goals (go_wp2; go_meet; exact F1.out)
      case rest =>
        have F1 : Hid _ := hcut.out
        clear hcut HR0 FK0 c0' HX1 c0
        go_upto_region 5 with fail
        obtain ⟨hr, hcs, hw3⟩ := FIN.out _ F1.out.1 F1.out.2
        have HR : Hid _ := hr
        have FK : Hid _ := hw3
        obtain ⟨c31, c01, f31⟩ := hcs
        clear hr hw3 FIN HO
        go_region_law ((first | (have zz := HR.out; refine step_counts (by rfl) 47 48 49 (by rfl) (by rfl) bn (tb rd rn k) k (by simp [Act.put]) (by simp [Act.put]) HR q HQ ?_; intro w3 b3; have F3 : Hid _ := FK.out w3 b3; have c33 := F3.out.1.row.c3; have c03 := F3.out.1.row.c0; have f33 := F3.out.1.row.fz 3; clear b3 zz HR)))
        all_goals (go_wp2; go_end0; exact ⟨rfl, by rw [HT2.out]; exact F3.out.1.u T2, F3.out.2.trans (fr_g (Kp.setCell _ _ _ _ rfl))⟩)
end Go.Proofs.YtpcllegjnbeppaaGreat.yh

namespace Go.Proofs.YtpcllegjnbeppaaGreat.yi
open Go.RowKit Go.PlainAid Go.Maps Go.Shelf
open Go.Proofs.YtpcllegjnbeppaaGreat.ca Go.Proofs.YtpcllegjnbeppaaGreat.cb Go.Proofs.YtpcllegjnbeppaaGreat.cp Go.Proofs.YtpcllegjnbeppaaGreat.kp Go.Proofs.YtpcllegjnbeppaaGreat.ka Go.Proofs.YtpcllegjnbeppaaGreat.ya Go.Proofs.YtpcllegjnbeppaaGreat.yb Go.Proofs.YtpcllegjnbeppaaGreat.yc Go.Proofs.YtpcllegjnbeppaaGreat.yd Go.Proofs.YtpcllegjnbeppaaGreat.ye Go.Proofs.YtpcllegjnbeppaaGreat.yf Go.Proofs.YtpcllegjnbeppaaGreat.yg Go.Proofs.YtpcllegjnbeppaaGreat.yh Go.Proofs.YtpcllegjnbeppaaGreat.sb Go.Proofs.YtpcllegjnbeppaaGreat.mc
set_option linter.unusedVariables false
set_option linter.unusedSimpArgs false
theorem cloneC (s : ByteArray) (w : World) (h : s.size ≤ 140737488355328) :
    Calls Tryz.prog 78 #[.string s] w fun e w' => e = .returned (.string s) ∧ Below w.heap.size w w' := by
  have CC : Hid (∀ w, Calls Tryz.prog 115 #[.string s] w fun e w' => e = .returned (.string s) ∧ Below w.heap.size w w') := fun w => AnyPu.stringslite_Clone laysC s w (by omega)
  go_enter Tryz.func78, Tryz.ntmps78
  go_wp2_with (go_at_call 115; refine (CC.out _).mono ?_; rintro _ w1 ⟨rfl, k1⟩; have K1 : Hid (Below w.heap.size w w1) := k1; clear k1)
  go_ret
  exact ⟨rfl, K1.out⟩
def addW (s : S) (x : W) : S := { s with pend := s.pend ++ [x] }
theorem now_add (s : S) (x : W) : now (addW s x) = doW (now s) x := by unfold now addW; rw [List.foldl_append]; rfl
theorem now_spend (s : S) : now (spendS s).2 = now s := by unfold spendS; split; rfl; split <;> rfl
theorem dur_spend (s : S) : (spendS s).2.dur = s.dur := by unfold spendS; split; rfl; split <;> rfl
theorem pend_spend (s : S) : (spendS s).2.pend = s.pend := by unfold spendS; split; rfl; split <;> rfl
theorem cap_spend (s : S) : (spendS s).2.cap = s.cap := by unfold spendS; split; rfl; split <;> rfl
theorem age_spend (s : S) : (spendS s).2.age = s.age := by unfold spendS; split; rfl; split <;> rfl
theorem arm_spend (s : S) : (spendS s).2.armed ≤ s.armed := by unfold spendS; split; exact Nat.le_refl _; split <;> simp
theorem ok_spend {s : S} (h : OkS s) : OkS (spendS s).2 := ⟨by rw [dur_spend]; exact h.dur, by rw [dur_spend]; exact h.srt, by rw [pend_spend]; exact h.pend, by rw [cap_spend]; exact h.cap0, by rw [cap_spend]; exact h.cap1, Nat.le_trans (arm_spend s) h.arm, by rw [age_spend]; exact h.age, by rw [dur_spend, pend_spend]; exact h.len⟩
theorem ok_add {s : S} {x : W} (h : OkS s) (hx : OkW x) (hl : s.dur.length + s.pend.length + 1 < 3518437208883) : OkS (addW s x) :=
  ⟨h.dur, h.srt, fun y hy => by rcases List.mem_append.1 hy with hy | hy; exact h.pend y hy; rw [List.mem_singleton.1 hy]; exact hx, h.cap0, h.cap1, h.arm, h.age, by show s.dur.length + (s.pend ++ [x]).length < _; simp; omega⟩
theorem sr_st {B g bn bd : Nat} {pv : Value} {s : S} {w w' : World} (h : Sr B g bn bd pv s w) (m : St g bn bd pv (tot (now s)) (spendS s).2 w') (k : Kp (fun k => k = g) w w') : Sr B g bn bd pv (spendS s).2 w' := by
  refine sr_of ?_ (ok_spend h.ok)
  have h1 := (sq_of h).st m k
  rw [now_spend, dur_spend, pend_spend]
  exact h1
-- a pending write laid down, its row grown
theorem add_row {B g bn bd : Nat} {pv : Value} {s : S} {x : W} {rn : List Rec} {w w' : World} {g5 c5 : Nat} {o : Obj} (h : Sq B g bn bd pv (tot rn) rn s.dur s.pend.length (wcs bd s.pend) s w) (hrn : rn = doW (now s) x) (ok : OkS s) (hx : OkW x) (hl : s.dur.length + s.pend.length + 1 < 3518437208883)
    (ho : w'.ownsRow B 100 3 (.slice (some ⟨g5, 0, none⟩) (s.pend.length + 1) c5) (s.pend.length + 1) (wcs bd s.pend ++ wc bd x)) (hg : (w.alloc o).grownBy w' pv.ownBlock) (hlies : pv.ownBlock = some g5 ∨ g5 = w.heap.size + 1) :
    St g bn bd pv (tot rn) s w' ∧ Kp (Fr g bn bd pv) w w' ∧ Sr B g bn bd (.slice (some ⟨g5, 0, none⟩) (s.pend.length + 1) c5) (addW s x) (w'.setCell ⟨g, 2, none⟩ (.slice (some ⟨g5, 0, none⟩) (s.pend.length + 1) c5)) ∧ ∀ k, some k = Value.ownBlock (.slice (some ⟨g5, 0, none⟩) (s.pend.length + 1) c5) → some k = pv.ownBlock ∨ w.heap.size ≤ k := by
  have b1 : Below w.heap.size w (w.alloc o) := (Below.refl _ w).alloc (Nat.le_refl _) _
  have h1 := h.later b1
  have k2 : Kp (fun k => some k = pv.ownBlock) (w.alloc o) w' := ⟨hg.os, hg.tape, hg.output, hg.size, fun k hk hn => hg.block k hk hn⟩
  have hrow : St g bn bd pv (tot rn) s w' := h1.row.keep k2 (own_tag h1.pr h1.row (by decide))
  have hmn : Mp bn rn w' := h1.mn.keep k2 (own_map h1.pr h1.mn)
  have hmd : Mp bd s.dur w' := h1.md.keep k2 (own_map h1.pr h1.md)
  have kk : Kp (Fr g bn bd pv) w w' := (Kp.of_below b1).trans (k2.mono fun k hk => .inr (.inr (.inr hk)))
  refine ⟨hrow, kk, ?_, ?_⟩
  · have hk : Kp (fun k => k = g) w' (w'.setCell ⟨g, 2, none⟩ (.slice (some ⟨g5, 0, none⟩) (s.pend.length + 1) c5)) := Kp.setCell _ _ _ _ rfl
    refine ⟨?_, ?_, hmd.keep hk (hmd.ne hrow), h.ne, ?_, h.low, ok_add ok hx hl⟩
    · have := hrow.set2 (.slice (some ⟨g5, 0, none⟩) (s.pend.length + 1) c5)
      rw [now_add, ← hrn]
      exact this
    · rw [now_add, ← hrn]
      exact hmn.keep hk (hmn.ne hrow)
    · have e1 : (addW s x).pend.length = s.pend.length + 1 := by simp [addW]
      have e2 : wcs bd (addW s x).pend = wcs bd s.pend ++ wc bd x := by simp [wcs, addW]
      rw [e1, e2]
      exact own_kp ho hk (fun j hj e => by subst e; exact own_tag ho hrow (by decide) hj)
  · intro k hk
    have hk : k = g5 := Option.some.inj hk
    subst hk
    rcases hlies with e | e
    · exact .inl e.symm
    · exact .inr (by omega)
theorem new_three (W : World) (u v x : Value) (t : TypeId) : ∀ (j : Nat) (y : Value), [u, v, x][j]? = some y → (W.alloc (.cells #[u, v, x] t)).cell? (Addr.add ⟨W.heap.size, 0, none⟩ j) = some y := by
  intro j y h
  have hb : (W.alloc (.cells #[u, v, x] t)).heap[W.heap.size]? = some (.cells #[u, v, x] t (0, 0)) := (MapKept.heap_alloc W _).1
  have e : (Addr.add ⟨W.heap.size, 0, none⟩ j) = ⟨W.heap.size, j, none⟩ := by simp [Addr.add]; omega
  rw [e, cell_of_row _ _ j _ _ _ hb]
  simpa using h
def cutS (s : S) (k : ByteArray) : Int × S := if refS s k ≠ 0 then (refS s k, s) else if (rget k (now s)).isSome then spendS (addW s ⟨true, k, ByteArray.empty⟩) else (123, s)
end Go.Proofs.YtpcllegjnbeppaaGreat.yi
