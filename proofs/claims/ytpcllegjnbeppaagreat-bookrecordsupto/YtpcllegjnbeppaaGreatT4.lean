import Derived.Test.YtpcllegjnbeppaaGreatT3
import Derived.OpenShut
import Derived.Test.YtpcllegjnbeppaaGreatG5
import Derived.Test.YtpcllegjnbeppaaGreatG4
namespace Go.Proofs.YtpcllegjnbeppaaGreat.tlb
open Go.RowKit Go.PlainAid
open Go.Proofs.YtpcllegjnbeppaaGreat.na Go.Proofs.YtpcllegjnbeppaaGreat.nb Go.Proofs.YtpcllegjnbeppaaGreat.tpa Go.Proofs.YtpcllegjnbeppaaGreat.tpd Go.Proofs.YtpcllegjnbeppaaGreat.tra Go.Proofs.YtpcllegjnbeppaaGreat.trb Go.Proofs.YtpcllegjnbeppaaGreat.tri Go.Proofs.YtpcllegjnbeppaaGreat.tqa Go.Proofs.YtpcllegjnbeppaaGreat.tqb Go.Proofs.YtpcllegjnbeppaaGreat.tqc Go.Proofs.YtpcllegjnbeppaaGreat.tqg Go.Proofs.YtpcllegjnbeppaaGreat.tqh
set_option linter.unusedVariables false
set_option linter.unusedSimpArgs false
def shF (s : ByteArray) : ByteArray := if 524288 < s.size then s.extract 0 524288 else s
theorem shF_size (s : ByteArray) : (shF s).size ≤ 524288 := by
  unfold shF
  split
  · rw [ext_size]; omega
  · omega
theorem same_text (a : ByteArray) : (a.toList != a.toList) = false := by simp
theorem empty_ne (s : ByteArray) : (s.toList != []) = true ↔ s.size ≠ 0 := by
  have h := empty_tst s
  rw [bne, h]
  by_cases hz : s.size = 0 <;> simp [hz]
end Go.Proofs.YtpcllegjnbeppaaGreat.tlb

namespace Go.Proofs.YtpcllegjnbeppaaGreat.tba
open Go.RowKit Go.PlainAid Go.Maps Go.Shelf
open Go.Proofs.YtpcllegjnbeppaaGreat.kp Go.Proofs.YtpcllegjnbeppaaGreat.ya Go.Proofs.YtpcllegjnbeppaaGreat.yb Go.Proofs.YtpcllegjnbeppaaGreat.yc Go.Proofs.YtpcllegjnbeppaaGreat.yd Go.Proofs.YtpcllegjnbeppaaGreat.ye Go.Proofs.YtpcllegjnbeppaaGreat.yf Go.Proofs.YtpcllegjnbeppaaGreat.yi Go.Proofs.YtpcllegjnbeppaaGreat.yk Go.Proofs.YtpcllegjnbeppaaGreat.yl Go.Proofs.YtpcllegjnbeppaaGreat.ym Go.Proofs.YtpcllegjnbeppaaGreat.yn
open Go.Proofs.YtpcllegjnbeppaaGreat.tqa Go.Proofs.YtpcllegjnbeppaaGreat.tqg Go.Proofs.YtpcllegjnbeppaaGreat.tqh
open Go.Proofs.YtpcllegjnbeppaaGreat.tqb (over keyC keyNo)
set_option linter.unusedVariables false
set_option linter.unusedSimpArgs false
theorem rn_pre {B g bn bd : Nat} {pv : Value} {s : S} {w w1 w2 : World} (hb : Below w.heap.size w w1) (r : Rn B g bn bd pv s w1 w2) : Rn B g bn bd pv s w w2 := by
  obtain ⟨pv', h, k, n⟩ := r
  exact ⟨pv', h, (Kp.of_below hb).trans k, fun j hj => (n j hj).imp id (fun x => Nat.le_trans hb.size x)⟩
-- Put, whatever is put
def bputS (s : S) (sp k n : Int) (p : ByteArray) : Int × S :=
  if 0 ≤ sp ∧ 1 ≤ k ∧ k ≤ 255 ∧ 0 ≤ n then (if p.size ≤ 524288 then putS s (keyT sp k n) (frameT k n p) else (121, s)) else (10, s)
theorem bputC {B g bn bd : Nat} {pv : Value} {s : S} {w : World} (sp k n : Int) (p : ByteArray) (h : Sr B g bn bd pv s w) (h1 : sp ≤ 9223372036854775807) (n1 : n ≤ 9223372036854775807) (hl : s.dur.length + s.pend.length + 1 < 3518437208883) (hB : B ≤ w.heap.size) :
    Calls Tryz.prog 24 #[.pointer (some ⟨g, 0, none⟩), .int .i64 sp, .int .i64 k, .int .i64 n, .string p] w fun e w' => e = .returned (.int .i64 (bputS s sp k n p).1) ∧ Rn B g bn bd pv (bputS s sp k n p).2 w w' := by
  have H : Hid (Sr B g bn bd pv s w) := h
  unfold bputS
  by_cases hk : 0 ≤ sp ∧ 1 ≤ k ∧ k ≤ 255 ∧ 0 ≤ n
  · rw [if_pos hk]
    have CK : Hid (∀ w, Calls _ _ _ _ _) := fun w => keyC sp k n w hk.1 h1 hk.2.1 hk.2.2.1 hk.2.2.2 n1
    by_cases hp : p.size ≤ 524288
    · rw [if_pos hp]
      have CF : Hid (∀ w, Calls _ _ _ _ _) := fun w => frameC k n p w hk.2.1 hk.2.2.1 hk.2.2.2 n1 hp
      have zk := keyT_size sp k n
      have zf := frameT_size k n p
      have CP : Hid (∀ w1, Below w.heap.size w w1 → Calls _ _ _ _ _) := fun w1 b1 => putC (keyT sp k n) (frameT k n p) (sr_later H.out b1) (by omega) (by omega) hl (Nat.le_trans hB b1.size)
      generalize keyT sp k n = K at *
      generalize frameT k n p = F at *
      clear h hk hp hl
      go_enter Tryz.func24, Tryz.ntmps24
      go_wp2_with fail
      refine (CK.out _).mono ?_
      rintro _ w1 ⟨rfl, b1⟩
      go_wp2_with fail
      refine (CF.out _).mono ?_
      rintro _ w2 ⟨rfl, b2⟩
      have B2 : Hid (Below w.heap.size w w2) := over b1 b2
      clear b1 b2
      go_wp2_with fail
      refine (CP.out w2 B2.out).mono ?_
      rintro _ w3 ⟨rfl, r3⟩
      have R3 : Hid (Rn _ _ _ _ _ _ _ _) := r3
      clear r3
      go_wp2
      go_ret
      exact ⟨rfl, rn_pre B2.out R3.out⟩
    · rw [if_neg hp]
      have CF : Hid (∀ w, Calls _ _ _ _ _) := fun w => frameBig k n p w hk.2.1 hk.2.2.1 hk.2.2.2 (by omega)
      generalize keyT sp k n = K at *
      clear h hk hp hl
      go_enter Tryz.func24, Tryz.ntmps24
      go_wp2_with fail
      refine (CK.out _).mono ?_
      rintro _ w1 ⟨rfl, b1⟩
      have B1 : Hid (Below w.heap.size w w1) := b1
      clear b1
      go_wp2_with fail
      refine (CF.out _).mono ?_
      rintro _ _ ⟨rfl, hw⟩; rw [hw]; clear hw
      go_wp2
      go_ret
      exact ⟨rfl, rn_pre B1.out (Rn.refl (sr_later H.out B1.out))⟩
  · rw [if_neg hk]
    have CK : Hid (∀ w, Calls _ _ _ _ _) := fun w => keyNo sp k n w hk
    clear h hk hl
    go_enter Tryz.func24, Tryz.ntmps24
    go_wp2_with fail
    refine (CK.out _).mono ?_
    rintro _ _ ⟨rfl, hw⟩; rw [hw]; clear hw
    go_wp2
    go_ret
    exact ⟨rfl, Rn.refl H.out⟩
-- Get
def bgetV (k n : Int) (x : ByteArray × Int) : ByteArray × Int := if x.2 = 0 then (if parseE x.1 = 0 ∧ parseK x.1 = k ∧ parseN x.1 = n then (parseP x.1, 0) else (ByteArray.empty, 132)) else (ByteArray.empty, x.2)
def bgetS (s : S) (sp k n : Int) : ByteArray × Int := if 0 ≤ sp ∧ 1 ≤ k ∧ k ≤ 255 ∧ 0 ≤ n then bgetV k n (getS s (keyT sp k n)) else (ByteArray.empty, 10)
theorem get_size {s : S} (h : OkS s) (k : ByteArray) : (getS s k).1.size ≤ 1048576 := by
  unfold getS
  split
  · exact Nat.zero_le _
  · show ((rget k (now s)).getD ByteArray.empty).size ≤ _
    cases hr : rget k (now s) with
    | none => exact Nat.zero_le _
    | some d => exact (h.now _ (get_mem hr)).2.2
set_option maxHeartbeats 1600000 in
theorem bgetC {B g bn bd : Nat} {pv : Value} {s : S} {w : World} (sp k n : Int) (h : Sr B g bn bd pv s w) (h1 : sp ≤ 9223372036854775807) (n1 : n ≤ 9223372036854775807) :
    Calls Tryz.prog 26 #[.pointer (some ⟨g, 0, none⟩), .int .i64 sp, .int .i64 k, .int .i64 n] w fun e w' => e = .returned (.tuple #[.string (bgetS s sp k n).1, .int .i64 (bgetS s sp k n).2]) ∧ Below w.heap.size w w' := by
  have H : Hid (Sr B g bn bd pv s w) := h
  unfold bgetS
  by_cases hk : 0 ≤ sp ∧ 1 ≤ k ∧ k ≤ 255 ∧ 0 ≤ n
  · rw [if_pos hk]
    have CK : Hid (∀ w, Calls _ _ _ _ _) := fun w => keyC sp k n w hk.1 h1 hk.2.1 hk.2.2.1 hk.2.2.2 n1
    have zk := keyT_size sp k n
    have CG : Hid (∀ w1, Below w.heap.size w w1 → Calls _ _ _ _ _) := fun w1 b1 => getC (keyT sp k n) (sr_later H.out b1) (by omega)
    have hz := get_size h.ok (keyT sp k n)
    generalize keyT sp k n = K at *
    generalize getS s K = x at *
    obtain ⟨d, e⟩ := x
    have hz' : d.size ≤ 1048576 := hz
    have CG' : Hid (∀ w1, Below w.heap.size w w1 → Calls Tryz.prog 60 #[.pointer (some ⟨g, 0, none⟩), .string K] w1 fun e' w' => e' = .returned (.tuple #[.string d, .int .i64 e]) ∧ Below w1.heap.size w1 w') := CG.out
    clear CG hz
    unfold bgetV
    by_cases he : e = 0
    · have CP : Hid (∀ w, Calls _ _ _ _ _) := fun w => parseC d w (by omega)
      rw [if_pos he]
      subst he
      have key : (∃ f : Prop, (parseE d = 0 ∧ parseK d = k ∧ parseN d = n) ∨ ((parseE d != 0) = true) ∨ (parseE d = 0 ∧ (parseK d != k) = true) ∨ (parseE d = 0 ∧ parseK d = k ∧ (parseN d != n) = true)) := ⟨True, by
        by_cases a : parseE d = 0
        · by_cases b : parseK d = k
          · by_cases c : parseN d = n
            · exact .inl ⟨a, b, c⟩
            · exact .inr (.inr (.inr ⟨a, b, by rw [bne_iff_ne]; exact c⟩))
          · exact .inr (.inr (.inl ⟨a, by rw [bne_iff_ne]; exact b⟩))
        · exact .inr (.inl (by rw [bne_iff_ne]; exact a))⟩
      obtain ⟨_, key⟩ := key
      have HV : Hid (((parseE d = 0 ∧ parseK d = k ∧ parseN d = n) → (if parseE d = 0 ∧ parseK d = k ∧ parseN d = n then (parseP d, (0 : Int)) else (ByteArray.empty, 132)) = (parseP d, 0)) ∧ (¬ (parseE d = 0 ∧ parseK d = k ∧ parseN d = n) → (if parseE d = 0 ∧ parseK d = k ∧ parseN d = n then (parseP d, (0 : Int)) else (ByteArray.empty, 132)) = (ByteArray.empty, 132))) := ⟨fun h => if_pos h, fun h => if_neg h⟩
      obtain ⟨v, HVV⟩ : ∃ v, Hid ((if parseE d = 0 ∧ parseK d = k ∧ parseN d = n then (parseP d, (0 : Int)) else (ByteArray.empty, 132)) = v) := ⟨_, rfl⟩
      show Calls _ _ _ _ fun e' w' => e' = .returned (.tuple #[.string (if parseE d = 0 ∧ parseK d = k ∧ parseN d = n then (parseP d, (0 : Int)) else (ByteArray.empty, 132)).1, .int .i64 (if parseE d = 0 ∧ parseK d = k ∧ parseN d = n then (parseP d, (0 : Int)) else (ByteArray.empty, 132)).2]) ∧ _
      rw [HVV.out] at HV ⊢
      clear HVV
      generalize parseE d = pe at *
      generalize parseK d = pk at *
      generalize parseN d = pn at *
      generalize parseP d = pp at *
      clear h hk
      rcases key with ⟨rfl, rfl, rfl⟩ | key | ⟨rfl, key⟩ | ⟨rfl, rfl, key⟩
      · have HV2 : Hid (v = (pp, 0)) := HV.out.1 ⟨rfl, rfl, rfl⟩
        clear HV
        go_enter Tryz.func26, Tryz.ntmps26
        go_wp2_with fail
        refine (CK.out _).mono ?_
        rintro _ w1 ⟨rfl, b1⟩
        go_wp2_with fail
        refine (CG'.out _ b1).mono ?_
        rintro _ w2 ⟨rfl, b2⟩
        have B2 : Hid (Below w.heap.size w w2) := over b1 b2
        clear b1 b2
        go_wp2_with fail
        refine (CP.out _).mono ?_
        rintro _ w3 ⟨rfl, b3⟩
        have B3 : Hid (Below w.heap.size w w3) := over B2.out b3
        clear b3
        go_wp2
        go_ret2
        exact ⟨by rw [HV2.out]; rfl, B3.out⟩
      all_goals
        have HV2 : Hid (v = (⟨#[]⟩, 132)) := HV.out.2 (fun h => by simp [h] at key)
        clear HV
        go_enter Tryz.func26, Tryz.ntmps26
        go_wp2_with fail
        refine (CK.out _).mono ?_
        rintro _ w1 ⟨rfl, b1⟩
        go_wp2_with fail
        refine (CG'.out _ b1).mono ?_
        rintro _ w2 ⟨rfl, b2⟩
        have B2 : Hid (Below w.heap.size w w2) := over b1 b2
        clear b1 b2
        go_wp2_with fail
        refine (CP.out _).mono ?_
        rintro _ w3 ⟨rfl, b3⟩
        have B3 : Hid (Below w.heap.size w w3) := over B2.out b3
        clear b3
        go_wp2
        go_ret2
        exact ⟨by rw [HV2.out]; rfl, B3.out⟩
    · rw [if_neg he]
      have he' : (e != 0) = true := by rw [bne_iff_ne]; exact he
      clear h hk he
      go_enter Tryz.func26, Tryz.ntmps26
      go_wp2_with fail
      refine (CK.out _).mono ?_
      rintro _ w1 ⟨rfl, b1⟩
      go_wp2_with fail
      refine (CG'.out _ b1).mono ?_
      rintro _ w2 ⟨rfl, b2⟩
      have B2 : Hid (Below w.heap.size w w2) := over b1 b2
      clear b1 b2
      go_wp2
      go_ret2
      exact ⟨rfl, B2.out⟩
  · rw [if_neg hk]
    have CK : Hid (∀ w, Calls _ _ _ _ _) := fun w => keyNo sp k n w hk
    clear h hk
    go_enter Tryz.func26, Tryz.ntmps26
    go_wp2_with fail
    refine (CK.out _).mono ?_
    rintro _ _ ⟨rfl, hw⟩; rw [hw]; clear hw
    go_wp2
    go_ret2
    exact ⟨rfl, Below.refl _ _⟩
end Go.Proofs.YtpcllegjnbeppaaGreat.tba

namespace Go.Proofs.YtpcllegjnbeppaaGreat.tbb
open Go.RowKit Go.PlainAid Go.Maps Go.Shelf
open Go.Proofs.YtpcllegjnbeppaaGreat.kp Go.Proofs.YtpcllegjnbeppaaGreat.ya Go.Proofs.YtpcllegjnbeppaaGreat.yb Go.Proofs.YtpcllegjnbeppaaGreat.yc Go.Proofs.YtpcllegjnbeppaaGreat.yd Go.Proofs.YtpcllegjnbeppaaGreat.ye Go.Proofs.YtpcllegjnbeppaaGreat.yf Go.Proofs.YtpcllegjnbeppaaGreat.yi Go.Proofs.YtpcllegjnbeppaaGreat.yk Go.Proofs.YtpcllegjnbeppaaGreat.yl Go.Proofs.YtpcllegjnbeppaaGreat.ym Go.Proofs.YtpcllegjnbeppaaGreat.yn
open Go.Proofs.YtpcllegjnbeppaaGreat.tqa Go.Proofs.YtpcllegjnbeppaaGreat.tqg Go.Proofs.YtpcllegjnbeppaaGreat.tqh Go.Proofs.YtpcllegjnbeppaaGreat.tba
open Go.Proofs.YtpcllegjnbeppaaGreat.tqb (over keyC keyNo)
open Go.Proofs.YtpcllegjnbeppaaGreat.tqc (key_same wi kd)
set_option linter.unusedVariables false
set_option linter.unusedSimpArgs false
-- a row beside a store
theorem row_apart {T z B B' g bn bd n : Nat} {pv v : Value} {s : S} {xs : List Value} {w : World} (h1 : T ≠ 80) (h2 : T ≠ 100) (h : Sr B g bn bd pv s w) (o : w.ownsRow B' T z v n xs) : ∀ j, Fr g bn bd pv j → some j ≠ v.ownBlock := by
  rintro j (rfl | rfl | rfl | hj)
  · exact own_tag o h.row h1
  · exact own_map o h.mn
  · exact own_map o h.md
  · rcases h.pr.2 with ⟨rfl, _⟩ | ⟨g', cap, cur, rfl, _, hh, _⟩
    · cases hj
    · have : j = g' := Option.some.inj hj
      subst this
      exact own_tag o hh h2
structure Mt (T z B g bn bd : Nat) (s : S) (v : Value) (n : Nat) (xs : List Value) (w w' : World) : Prop where
  ex : ∃ pv, Sr B g bn bd pv s w'
  row : w'.ownsRow B T z v n xs
  bl : Below B w w'
theorem Mt.later {T z B g bn bd n : Nat} {s : S} {v : Value} {xs : List Value} {w w1 w2 : World} (h : Mt T z B g bn bd s v n xs w w1) (b : Below w1.heap.size w1 w2) (hB : B ≤ w.heap.size) : Mt T z B g bn bd s v n xs w w2 := by
  obtain ⟨⟨pv, h1⟩, h2, h3⟩ := h
  exact ⟨⟨pv, sr_later h1 b⟩, own_kp h2 (Kp.of_below (A := fun _ => False) b) (fun _ _ e => e), h3.trans (b.mono (Nat.le_trans hB h3.size))⟩
theorem Mt.rn {T z B g bn bd n : Nat} {pv : Value} {s s' : S} {v : Value} {xs : List Value} {w w1 w2 : World} (h1 : T ≠ 80) (h2 : T ≠ 100) (h : Mt T z B g bn bd s v n xs w w1) (hp : Sr B g bn bd pv s w1) (r : Rn B g bn bd pv s' w1 w2) (hB : B ≤ w.heap.size) : Mt T z B g bn bd s' v n xs w w2 := by
  have hb := Rn.below hp r (Nat.le_trans hB h.bl.size)
  obtain ⟨p, h7, k, _⟩ := r
  exact ⟨⟨p, h7⟩, own_kp h.row k (fun j hj hF => row_apart h1 h2 hp h.row j hF hj), h.bl.trans hb⟩
-- the row grows
theorem Mt.grown {T z B g bn bd n n' : Nat} {s : S} {v v' : Value} {xs xs' : List Value} {w w1 w2 : World} (h1 : T ≠ 80) (h2 : T ≠ 100) (h : Mt T z B g bn bd s v n xs w w1) (o : w2.ownsRow B T z v' n' xs') (hg : w1.grownBy w2 v.ownBlock) (hB : B ≤ w.heap.size) : Mt T z B g bn bd s v' n' xs' w w2 := by
  obtain ⟨⟨pv, hp⟩, hr, hb⟩ := h
  have k : Kp (fun k => some k = v.ownBlock) w1 w2 := ⟨hg.os, hg.tape, hg.output, hg.size, fun j hj hn => hg.block j hj (fun e => hn e)⟩
  exact ⟨⟨pv, sr_keep hp k (fun j hj e => row_apart h1 h2 hp hr j hj e)⟩, o, hb.grown hg (Nat.le_trans hB hb.size) (fun j hj => (hr.lt _ hj).1)⟩
-- what the law puts
theorem put_ok {s : S} {k d : ByteArray} (ho : s.off = false) (ha : s.armed = 0) (h1 : 1 ≤ k.size ∧ k.size ≤ 64) (hd : d.size ≤ 1048576) (ht : (tot (put k d (now s)) : Int) ≤ s.cap) : putS s k d = (0, addW s ⟨false, k, d⟩) := by
  have hr : refS s k = 0 := by unfold refS; rw [ho]; simp [h1]
  have hsp : spendS (addW s ⟨false, k, d⟩) = (0, addW s ⟨false, k, d⟩) := by
    unfold spendS
    rw [if_pos (show (addW s ⟨false, k, d⟩).armed = 0 from ha)]
  unfold putS
  rw [if_neg (by simp [hr]), if_pos hd, if_neg (by omega), hsp]
theorem put_put {k x y : ByteArray} {r : List Rec} (h : Srt r) : put k x (put k y r) = put k x r := by
  refine ext_get (srt_put (srt_put h)) (srt_put h) (fun k' => ?_)
  by_cases e : k' = k
  · subst e; rw [get_put_same (srt_put h), get_put_same h]
  · rw [get_put_other (srt_put h) e, get_put_other h e, get_put_other h e]
theorem tot_le (k d : ByteArray) {r : List Rec} (h : Srt r) : tot (put k d r) ≤ tot r + cnt (k, d) := by have := tot_put k d r h; omega
structure Ks (K1 K2 : ByteArray) : Prop where
  ne : K1 ≠ K2
  z1 : K1.size = 18
  z2 : K2.size = 18
def D0 (K1 K2 a b : ByteArray) : List Rec := put K2 b (put K1 a [])
theorem srt_nil : Srt [] := List.Pairwise.nil
theorem srtD (K1 K2 a b : ByteArray) : Srt (D0 K1 K2 a b) := srt_put (srt_put srt_nil)
theorem totD (K1 K2 a b : ByteArray) : tot (D0 K1 K2 a b) ≤ cnt (K1, a) + cnt (K2, b) := by
  have h1 := tot_le K2 b (srt_put (k := K1) (d := a) srt_nil)
  have h2 := tot_le K1 a srt_nil
  have h3 : tot ([] : List Rec) = 0 := rfl
  unfold D0; omega
def sL (F : ByteArray → ByteArray) (K1 K2 a b : ByteArray) (ps : List ByteArray) : S := ⟨536870912, D0 K1 K2 a b, ps.map fun p => ⟨false, K1, F p⟩, 0, false, 0⟩
theorem sL_add (F : ByteArray → ByteArray) (K1 K2 a b : ByteArray) (ps : List ByteArray) (p : ByteArray) : addW (sL F K1 K2 a b ps) ⟨false, K1, F p⟩ = sL F K1 K2 a b (ps ++ [p]) := by simp [sL, addW]
theorem sL_now (F : ByteArray → ByteArray) (K1 K2 a b : ByteArray) (ps : List ByteArray) (p : ByteArray) : now (sL F K1 K2 a b (ps ++ [p])) = put K1 (F p) (now (sL F K1 K2 a b ps)) := by
  rw [← sL_add, now_add]; rfl
theorem fold_last (F : ByteArray → ByteArray) (K1 : ByteArray) : ∀ (ps : List ByteArray) (p : ByteArray) (r : List Rec), Srt r → ((ps ++ [p]).map fun p => (⟨false, K1, F p⟩ : W)).foldl doW r = put K1 (F p) r := by
  intro ps
  induction ps with
  | nil => intro p r h; rfl
  | cons x l ih =>
    intro p r h
    have := ih p (put K1 (F x) r) (srt_put h)
    rw [put_put h] at this
    exact this
theorem sL_last (F : ByteArray → ByteArray) (K1 K2 a b : ByteArray) (ps : List ByteArray) (p : ByteArray) : now (sL F K1 K2 a b (ps ++ [p])) = put K1 (F p) (D0 K1 K2 a b) := fold_last F K1 ps p _ (srtD _ _ _ _)
theorem sL_put {F : ByteArray → ByteArray} {K1 K2 a b : ByteArray} (hk : Ks K1 K2) (ha : a.size ≤ 524306) (hb : b.size ≤ 524306) (ps : List ByteArray) (p : ByteArray) (hp : (F p).size ≤ 524306) : putS (sL F K1 K2 a b ps) K1 (F p) = (0, sL F K1 K2 a b (ps ++ [p])) := by
  rw [← sL_add]
  refine put_ok rfl rfl (by rw [hk.z1]; omega) (by omega) ?_
  rw [← sL_now, sL_last]
  have h1 := tot_le K1 (F p) (srtD K1 K2 a b)
  have h2 := totD K1 K2 a b
  have z1 := hk.z1
  have z2 := hk.z2
  simp only [cnt] at h1 h2
  show (tot (put K1 (F p) (D0 K1 K2 a b)) : Int) ≤ 536870912
  omega
theorem sL_get {F : ByteArray → ByteArray} {K1 K2 a b : ByteArray} (hk : Ks K1 K2) (ps : List ByteArray) (p : ByteArray) : getS (sL F K1 K2 a b (ps ++ [p])) K1 = (F p, 0) := by
  have hr : refS (sL F K1 K2 a b (ps ++ [p])) K1 = 0 := by unfold refS; rw [show (sL F K1 K2 a b (ps ++ [p])).off = false from rfl]; simp [hk.z1]
  unfold getS
  rw [if_neg (by simp [hr]), sL_last, get_put_same (srtD K1 K2 a b)]
  rfl
-- the beginning: two puts, and a Sync
def s00 : S := ⟨536870912, [], [], 0, false, 0⟩
theorem s00_put {K1 K2 a b : ByteArray} (hk : Ks K1 K2) (ha : a.size ≤ 524306) (hb : b.size ≤ 524306) : putS s00 K1 a = (0, addW s00 ⟨false, K1, a⟩) ∧ putS (addW s00 ⟨false, K1, a⟩) K2 b = (0, addW (addW s00 ⟨false, K1, a⟩) ⟨false, K2, b⟩) := by
  have z1 := hk.z1
  have z2 := hk.z2
  constructor
  · refine put_ok rfl rfl (by omega) (by omega) ?_
    have h2 := tot_le K1 a srt_nil
    have h3 : tot ([] : List Rec) = 0 := rfl
    simp only [cnt] at h2
    show (tot (put K1 a []) : Int) ≤ 536870912
    omega
  · refine put_ok rfl rfl (by omega) (by omega) ?_
    have h2 := totD K1 K2 a b
    simp only [cnt] at h2
    show (tot (D0 K1 K2 a b) : Int) ≤ 536870912
    omega
theorem s00_sync (F : ByteArray → ByteArray) (K1 K2 a b : ByteArray) : syncS (addW (addW s00 ⟨false, K1, a⟩) ⟨false, K2, b⟩) = (0, sL F K1 K2 a b []) := rfl
-- behind the power cut
def sC (F : ByteArray → ByteArray) (K1 K2 a b : ByteArray) (ps : List ByteArray) (keep : ByteArray) : S := crashS (sL F K1 K2 a b ps) keep
theorem kd_one (F : ByteArray → ByteArray) (K1 K2 : ByteArray) (a0 b keep : ByteArray) (hne : K1 ≠ K2) (ps : List ByteArray) (j : Nat) : ∃ p ∈ a0 :: ps, rget K1 (kdN keep (ps.map fun p => (⟨false, K1, F p⟩ : W)) (D0 K1 K2 (F a0) b) j) = some (F p) := by
  induction j with
  | zero =>
    refine ⟨a0, by simp, ?_⟩
    show rget K1 (D0 K1 K2 (F a0) b) = _
    unfold D0
    rw [get_put_other (srt_put srt_nil) hne, get_put_same srt_nil]
  | succ j ih =>
    show ∃ p ∈ a0 :: ps, rget K1 (match (ps.map fun p => (⟨false, K1, F p⟩ : W))[j]? with | some x => if surv keep j then doW (kdN keep (ps.map fun p => (⟨false, K1, F p⟩ : W)) (D0 K1 K2 (F a0) b) j) x else kdN keep (ps.map fun p => (⟨false, K1, F p⟩ : W)) (D0 K1 K2 (F a0) b) j | none => kdN keep (ps.map fun p => (⟨false, K1, F p⟩ : W)) (D0 K1 K2 (F a0) b) j) = some (F p)
    cases h : (ps.map fun p => (⟨false, K1, F p⟩ : W))[j]? with
    | none => exact ih
    | some x =>
      rw [List.getElem?_map, Option.map_eq_some_iff] at h
      obtain ⟨p, hp, rfl⟩ := h
      cases surv keep j with
      | false => exact ih
      | true =>
        refine ⟨p, List.mem_cons_of_mem _ (List.mem_of_getElem? hp), ?_⟩
        exact get_put_same (srt_kd (srtD _ _ _ _) _)
theorem sC_get {F : ByteArray → ByteArray} {K1 K2 a0 b : ByteArray} (hk : Ks K1 K2) (ps : List ByteArray) (keep : ByteArray) : (∃ p ∈ a0 :: ps, getS (sC F K1 K2 (F a0) b ps keep) K1 = (F p, 0)) ∧ getS (sC F K1 K2 (F a0) b ps keep) K2 = (b, 0) := by
  have hr1 : refS (sC F K1 K2 (F a0) b ps keep) K1 = 0 := by unfold refS; rw [show (sC F K1 K2 (F a0) b ps keep).off = false from rfl]; simp [hk.z1]
  have hr2 : refS (sC F K1 K2 (F a0) b ps keep) K2 = 0 := by unfold refS; rw [show (sC F K1 K2 (F a0) b ps keep).off = false from rfl]; simp [hk.z2]
  have hn : now (sC F K1 K2 (F a0) b ps keep) = kdN keep (ps.map fun p => (⟨false, K1, F p⟩ : W)) (D0 K1 K2 (F a0) b) (ps.map fun p => (⟨false, K1, F p⟩ : W)).length := rfl
  constructor
  · obtain ⟨p, hp, h⟩ := kd_one F K1 K2 a0 b keep hk.ne ps (ps.map fun p => (⟨false, K1, F p⟩ : W)).length
    refine ⟨p, hp, ?_⟩
    unfold getS
    rw [if_neg (by simp [hr1]), hn, h]
    rfl
  · unfold getS
    rw [if_neg (by simp [hr2]), hn, get_kd (srtD _ _ _ _) (fun x hx => by
      obtain ⟨p, _, rfl⟩ := List.mem_map.1 hx
      exact hk.ne)]
    unfold D0
    rw [get_put_same (srt_put srt_nil)]
    rfl
end Go.Proofs.YtpcllegjnbeppaaGreat.tbb

namespace Go.Proofs.YtpcllegjnbeppaaGreat.tlo
open Go.RowKit Go.PlainAid Go.Maps Go.Shelf
open Go.Proofs.YtpcllegjnbeppaaGreat.kp Go.Proofs.YtpcllegjnbeppaaGreat.ka Go.Proofs.YtpcllegjnbeppaaGreat.ya Go.Proofs.YtpcllegjnbeppaaGreat.yb Go.Proofs.YtpcllegjnbeppaaGreat.yc Go.Proofs.YtpcllegjnbeppaaGreat.yd Go.Proofs.YtpcllegjnbeppaaGreat.ye Go.Proofs.YtpcllegjnbeppaaGreat.yf Go.Proofs.YtpcllegjnbeppaaGreat.yg Go.Proofs.YtpcllegjnbeppaaGreat.yi Go.Proofs.YtpcllegjnbeppaaGreat.yk Go.Proofs.YtpcllegjnbeppaaGreat.yl Go.Proofs.YtpcllegjnbeppaaGreat.ym Go.Proofs.YtpcllegjnbeppaaGreat.yn
open Go.Proofs.YtpcllegjnbeppaaGreat.tqa Go.Proofs.YtpcllegjnbeppaaGreat.tqg Go.Proofs.YtpcllegjnbeppaaGreat.tqh Go.Proofs.YtpcllegjnbeppaaGreat.tba Go.Proofs.YtpcllegjnbeppaaGreat.tbb
open Go.Proofs.YtpcllegjnbeppaaGreat.tqb (over keyC keyNo)
open Go.Proofs.YtpcllegjnbeppaaGreat.tqc (key_same wi kd wi_ok kd_ok)
open Go.Proofs.YtpcllegjnbeppaaGreat.tlb (shF shF_size)
set_option linter.unusedVariables false
set_option linter.unusedSimpArgs false
def besd (n : Int) : Int := if n = 0 then 1 else n - 1
theorem besd_ok (n : Int) (h0 : 0 ≤ n) (h1 : n ≤ 9223372036854775807) : 0 ≤ besd n ∧ besd n ≤ 9223372036854775807 ∧ besd n ≠ n := by unfold besd; split <;> omega
theorem text_ne {a b : ByteArray} (h : a ≠ b) : (a.toList == b.toList) = false := by
  rw [beq_eq_false_iff_ne]
  intro e
  rw [ByteArray.toList_eq, ByteArray.toList_eq] at e
  exact h (ByteArray.ext (Array.toList_inj.1 e))
theorem keys_apart (s k n t l m : Int) (s0 : 0 ≤ s) (s1 : s ≤ 9223372036854775807) (k0 : 0 ≤ k) (k1 : k ≤ 255) (n0 : 0 ≤ n) (n1 : n ≤ 9223372036854775807) (t0 : 0 ≤ t) (t1 : t ≤ 9223372036854775807) (l0 : 0 ≤ l) (l1 : l ≤ 255) (m0 : 0 ≤ m) (m1 : m ≤ 9223372036854775807) (h : ¬ (s = t ∧ k = l ∧ n = m)) : keyT s k n ≠ keyT t l m := by
  intro e
  have hh := key_same s k n t l m s0 s1 k0 k1 n0 n1 t0 t1 l0 l1 m0 m1
  rw [e] at hh
  simp at hh
  exact h ⟨hh.1.1, hh.1.2, hh.2⟩
theorem bget_frame {k n : Int} {p : ByteArray} (k0 : 1 ≤ k) (k1 : k ≤ 255) (n0 : 0 ≤ n) (n1 : n ≤ 9223372036854775807) (hp : p.size ≤ 524288) : bgetV k n (frameT k n p, 0) = (p, 0) := by
  obtain ⟨h1, h2, h3, h4⟩ := parse_frame k n p k0 k1 n0 n1 hp
  unfold bgetV
  rw [if_pos rfl, if_pos ⟨h1, h2, h3⟩, h4]
theorem mt_new {T B g bn bd n : Nat} {s : S} {v u : Value} {xs : List Value} {w w1 : World} (h : Mt T 1 B g bn bd s v n xs w w1) (hB : B ≤ w.heap.size) : Mt T 1 B g bn bd s (.slice (some ⟨w1.heap.size, 0, none⟩) 1 1) 1 [u] w (w1.alloc (.cells #[u] T)) := by
  have h2 := h.later ((Below.refl _ w1).alloc (Nat.le_refl _) (.cells #[u] T)) hB
  refine ⟨h2.ex, ⟨rfl, .inr ⟨w1.heap.size, 1, #[u], rfl, Nat.le_trans hB h.bl.size, heap_alloc_new w1 _, Nat.le_refl _, by unfold maxLen; omega, rfl, rfl⟩⟩, h2.bl⟩
theorem tne1 : (9 : Nat) ≠ 80 := by decide
theorem tne2 : (9 : Nat) ≠ 100 := by decide
def bsd : ByteArray := ⟨#[98, 101, 115, 105, 100, 101]⟩
end Go.Proofs.YtpcllegjnbeppaaGreat.tlo

namespace Go.Proofs.YtpcllegjnbeppaaGreat.tbc
open Go.RowKit Go.PlainAid Go.Shelf
open Go.Proofs.YtpcllegjnbeppaaGreat.na Go.Proofs.YtpcllegjnbeppaaGreat.nb Go.Proofs.YtpcllegjnbeppaaGreat.tpa Go.Proofs.YtpcllegjnbeppaaGreat.tpd Go.Proofs.YtpcllegjnbeppaaGreat.tqa Go.Proofs.YtpcllegjnbeppaaGreat.tqb Go.Proofs.YtpcllegjnbeppaaGreat.tqd Go.Proofs.YtpcllegjnbeppaaGreat.tqe
open Go.Proofs.YtpcllegjnbeppaaGreat.tqf (cutL_size cutL_at nx_at)
open Go.Proofs.YtpcllegjnbeppaaGreat.tqc (keyT_space keyT_kind keyT_number)
set_option linter.unusedVariables false
set_option linter.unusedSimpArgs false
-- a text read as a key
def sg (x : Int) : Int := if 9223372036854775807 < x then x - 18446744073709551616 else x
theorem sg_wrap (x : Int) (h0 : 0 ≤ x) (h1 : x ≤ 18446744073709551615) : IntKind.i64.wrap x = sg x := by
  rw [IntKind.wrap_i64]; unfold sg; split <;> omega
theorem sg_rng (x : Int) (h0 : 0 ≤ x) (h1 : x ≤ 18446744073709551615) : -9223372036854775808 ≤ sg x ∧ sg x ≤ 9223372036854775807 := by unfold sg; split <;> omega
def r1 (b : ByteArray) := cutL b 1
def r2 (b : ByteArray) := cutL (r1 b) 8
def r3 (b : ByteArray) := cutL (r2 b) 1
def kH (b : ByteArray) : Int := nx (r1 b) 8
def kC (b : ByteArray) : Int := nx (r2 b) 1
def kL (b : ByteArray) : Int := nx (r3 b) 8
def isKey (b : ByteArray) : Bool := decide ((0 ≤ sg (kH b) ∧ 1 ≤ kC b ∧ kC b ≤ 255 ∧ 0 ≤ sg (kL b)) ∧ keyT (sg (kH b)) (kC b) (sg (kL b)) = b)
theorem nx8_rng (b : ByteArray) : 0 ≤ nx b 8 ∧ nx b 8 ≤ 18446744073709551615 := by
  have h := nx_range b 8
  have e : (256 : Int) ^ 8 = 18446744073709551616 := by decide
  omega
theorem nx1_rng (b : ByteArray) : 0 ≤ nx b 1 ∧ nx b 1 ≤ 255 := by
  have h := nx_range b 1
  have e : (256 : Int) ^ 1 = 256 := by decide
  omega
def rkV (b : ByteArray) : Value := if isKey b then .tuple #[.int .i64 (sg (kH b)), .int .i64 (sg (kL b)), .bool true] else .tuple #[.int .i64 0, .int .i64 0, .bool false]
theorem one_box {w w1 : World} {o : Obj} (b : Below (w.alloc o).heap.size (w.alloc o) w1) : w1.heap[w.heap.size]? = some o := by
  refine (b.block _ (by simp)).trans ?_
  exact heap_alloc_new w _
theorem text_eq (a b : ByteArray) : (a.toList == b.toList) = decide (a = b) := by
  by_cases h : a = b
  · subst h; simp
  · rw [decide_eq_false h, beq_eq_false_iff_ne]
    intro e
    rw [ByteArray.toList_eq, ByteArray.toList_eq] at e
    exact h (ByteArray.ext (Array.toList_inj.1 e))
set_option maxRecDepth 100000 in
set_option maxHeartbeats 6400000 in
theorem readKeyC (b : ByteArray) (w : World) (hs : b.size ≤ 281474976710656) :
    Calls Tryz.prog 69 #[.string b] w fun e w' => e = .returned (rkV b) ∧ Below w.heap.size w w' := by
  have s1 : (r1 b).size ≤ b.size := by rw [r1, cutL_size]; omega
  have s2 : (r2 b).size ≤ b.size := by rw [r2, cutL_size]; omega
  have s3 : (r3 b).size ≤ b.size := by rw [r3, cutL_size]; omega
  have C1 : Hid (∀ w, Calls Tryz.prog 110 #[.agg #[.string b], .int .i64 1] w fun e w' => e = .returned (.tuple #[.string (b.extract 0 (min 1 b.size)), .agg #[.string (r1 b)]]) ∧ Below w.heap.size w w') := fun w => takeC b 1 _ w hs (by omega) rfl
  have C2 : Hid (∀ w, Calls Tryz.prog 111 #[.agg #[.string (r1 b)]] w fun e w' => e = .returned (.tuple #[.int .u64 (kH b), .agg #[.string (r2 b)]]) ∧ Below w.heap.size w w') := fun w => next64C (r1 b) w (by omega)
  have C3 : Hid (∀ w, Calls Tryz.prog 112 #[.agg #[.string (r2 b)]] w fun e w' => e = .returned (.tuple #[.int .u8 (kC b), .agg #[.string (r3 b)]]) ∧ Below w.heap.size w w') := fun w => next8C (r2 b) w (by omega)
  have C4 : Hid (∀ w, Calls Tryz.prog 111 #[.agg #[.string (r3 b)]] w fun e w' => e = .returned (.tuple #[.int .u64 (kL b), .agg #[.string (cutL (r3 b) 8)]]) ∧ Below w.heap.size w w') := fun w => next64C (r3 b) w (by omega)
  have hH := nx8_rng (r1 b)
  have hL := nx8_rng (r3 b)
  have hC := nx1_rng (r2 b)
  have wH : IntKind.i64.wrap (kH b) = sg (kH b) := sg_wrap _ hH.1 hH.2
  have wL : IntKind.i64.wrap (kL b) = sg (kL b) := sg_wrap _ hL.1 hL.2
  have wC : IntKind.i64.wrap (kC b) = kC b := by rw [IntKind.wrap_i64]; have := hC; unfold kC; omega
  have gH := sg_rng (kH b) hH.1 hH.2
  have gL := sg_rng (kL b) hL.1 hL.2
  have C5 : Hid (∃ (t : ByteArray) (e : Int), (∀ w, Calls Tryz.prog 58 #[.int .i64 (sg (kH b)), .int .i64 (kC b), .int .i64 (sg (kL b))] w fun x w' => x = .returned (.tuple #[.string t, .int .i64 e]) ∧ Below w.heap.size w w') ∧ ((isKey b = true ∧ e = 0 ∧ t = b) ∨ (isKey b = false ∧ ((e != 0) = true ∨ (e = 0 ∧ (t.toList == b.toList) = false)))) ) := by
    by_cases h : 0 ≤ sg (kH b) ∧ 1 ≤ kC b ∧ kC b ≤ 255 ∧ 0 ≤ sg (kL b)
    · refine ⟨keyT (sg (kH b)) (kC b) (sg (kL b)), 0, fun w => keyC _ _ _ w h.1 gH.2 h.2.1 h.2.2.1 h.2.2.2 gL.2, ?_⟩
      by_cases e : keyT (sg (kH b)) (kC b) (sg (kL b)) = b
      · exact .inl ⟨decide_eq_true ⟨h, e⟩, rfl, e⟩
      · exact .inr ⟨decide_eq_false (fun h2 => e h2.2), .inr ⟨rfl, by rw [text_eq, decide_eq_false e]⟩⟩
    · exact ⟨ByteArray.empty, 10, fun w => (keyNo _ _ _ w h).mono (by rintro _ _ ⟨rfl, hw⟩; exact ⟨rfl, by rw [hw]; exact Below.refl _ _⟩), .inr ⟨decide_eq_false (fun h2 => h h2.1), .inl (by decide)⟩⟩
  obtain ⟨t, e, c5, key⟩ := C5.out
  have C5' : Hid (∀ w, Calls _ _ _ _ _) := c5
  have HV : Hid ((isKey b = true → rkV b = .tuple #[.int .i64 (sg (kH b)), .int .i64 (sg (kL b)), .bool true]) ∧ (isKey b = false → rkV b = .tuple #[.int .i64 0, .int .i64 0, .bool false])) := ⟨fun h => by unfold rkV; rw [if_pos h], fun h => by unfold rkV; rw [if_neg (by simp [h])]⟩
  clear C5 c5 s1 s2 s3 hH hL hC gH gL
  generalize rkV b = rv at *
  generalize isKey b = ik at *
  generalize kH b = h1 at *
  generalize kC b = h2 at *
  generalize kL b = h3 at *
  generalize cutL (r3 b) 8 = z4 at *
  generalize r1 b = z1 at *
  generalize r2 b = z2 at *
  generalize r3 b = z3 at *
  generalize b.extract 0 (min 1 b.size) = z0 at *
  generalize sg h1 = x1 at *
  generalize sg h3 = x3 at *
  have key2 : (ik = true ∧ e = 0 ∧ t = b) ∨ (ik = false ∧ (e != 0) = true) ∨ (ik = false ∧ e = 0 ∧ (t.toList == b.toList) = false) := by
    rcases key with h | ⟨h, h2 | ⟨h2, h3⟩⟩
    · exact .inl h
    · exact .inr (.inl ⟨h, h2⟩)
    · exact .inr (.inr ⟨h, h2, h3⟩)
  clear key
  have tb : (b.toList == b.toList) = true := by simp
  go_enter Tryz.func69, Tryz.ntmps69
  go_wp2_with fail
  refine (C1.out _).mono ?_
  rintro _ w1 ⟨rfl, b1⟩
  have B1 : Hid (Below w.heap.size w w1) := b1
  clear b1
  go_wp2_with fail
  refine (C2.out _).mono ?_
  rintro _ w2 ⟨rfl, b2⟩
  have h0 := one_box b2
  have B2 : Hid (Below w.heap.size w w2) := over (B1.out.alloc B1.out.size _) b2
  have HS2 : Hid (w.heap.size ≤ w1.heap.size) := B1.out.size
  have c0 : w2.cell? ⟨w1.heap.size, 0, none⟩ = some (.string z1) := by rw [cell_of_row _ _ _ _ _ _ h0]; rfl
  have f0 : w2.frozen? ⟨w1.heap.size, 0, none⟩ = false := frozen_of_row _ _ _ _ _ h0
  have H0 : Hid _ := heap_setCell_same w2 _ 0 _ _ (.string z2) h0
  clear h0 b2
  go_wp2_with fail
  obtain ⟨x2, HX2⟩ : ∃ x, x = w2.setCell ⟨w1.heap.size, 0, none⟩ (.string z2) := ⟨_, rfl⟩
  rw [← HX2] at H0 ⊢
  have BX2 : Hid (Below w.heap.size w x2) := by rw [HX2]; exact B2.out.setCell HS2.out _
  clear HX2 c0 f0
  refine (C3.out _).mono ?_
  rintro _ w3 ⟨rfl, b3⟩
  have h0 : w3.heap[w1.heap.size]? = some (.cells #[.string z2] 170 (0, 0)) := (b3.block _ (Array.getElem?_eq_some_iff.1 H0.out).1).trans H0.out
  have B3 : Hid (Below w.heap.size w w3) := over BX2.out b3
  have c0 : w3.cell? ⟨w1.heap.size, 0, none⟩ = some (.string z2) := by rw [cell_of_row _ _ _ _ _ _ h0]; rfl
  have f0 : w3.frozen? ⟨w1.heap.size, 0, none⟩ = false := frozen_of_row _ _ _ _ _ h0
  have H1 : Hid _ := heap_setCell_same w3 _ 0 _ _ (.string z3) h0
  clear h0 b3 H0 BX2
  go_wp2_with fail
  obtain ⟨x3', HX3⟩ : ∃ x, x = w3.setCell ⟨w1.heap.size, 0, none⟩ (.string z3) := ⟨_, rfl⟩
  rw [← HX3] at H1 ⊢
  have BX3 : Hid (Below w.heap.size w x3') := by rw [HX3]; exact B3.out.setCell HS2.out _
  clear HX3 c0 f0
  refine (C4.out _).mono ?_
  rintro _ w4 ⟨rfl, b4⟩
  have B4 : Hid (Below w.heap.size w (w4.alloc (.cells #[.string z4] 170))) := (over BX3.out b4).alloc (over BX3.out b4).size _
  clear b4 H1 BX3
  go_wp2_with fail
  refine (C5'.out _).mono ?_
  rintro _ w5 ⟨rfl, b5⟩
  have B5 : Hid (Below w.heap.size w w5) := over B4.out b5
  clear b5
  rcases key2 with ⟨rfl, rfl, rfl⟩ | ⟨rfl, k2⟩ | ⟨rfl, rfl, k2⟩
  · have HR : Hid _ := HV.out.1 rfl
    go_wp2
    go_ret3
    exact ⟨by rw [HR.out]; rfl, B5.out⟩
  all_goals
    have HR : Hid _ := HV.out.2 rfl
    go_wp2
    go_ret3
    exact ⟨by rw [HR.out]; rfl, B5.out⟩
-- keys are read
theorem isKey_of (s k n : Int) (s0 : 0 ≤ s) (s1 : s ≤ 9223372036854775807) (k0 : 1 ≤ k) (k1 : k ≤ 255) (n0 : 0 ≤ n) (n1 : n ≤ 9223372036854775807) : sg (kH (keyT s k n)) = s ∧ kC (keyT s k n) = k ∧ sg (kL (keyT s k n)) = n ∧ isKey (keyT s k n) = true := by
  have hz := keyT_size s k n
  have e1 : r1 (keyT s k n) = (keyT s k n).extract 1 (keyT s k n).size := by
    have h := cutL_at (keyT s k n) 0 1 (by omega)
    rw [ext_all (keyT s k n) (keyT s k n).size rfl] at h
    exact h
  have e2 : r2 (keyT s k n) = (keyT s k n).extract 9 (keyT s k n).size := by rw [r2, e1, cutL_at _ 1 8 (by omega)]
  have e3 : r3 (keyT s k n) = (keyT s k n).extract 10 (keyT s k n).size := by rw [r3, e2, cutL_at _ 9 1 (by omega)]
  have hH : kH (keyT s k n) = s := by rw [kH, e1, nx_at _ 1 8 (by omega)]; exact keyT_space s k n s0 (by omega)
  have hC : kC (keyT s k n) = k := by rw [kC, e2, nx_at _ 9 1 (by omega)]; exact keyT_kind s k n (by omega) k1
  have hL : kL (keyT s k n) = n := by rw [kL, e3, nx_at _ 10 8 (by omega)]; exact keyT_number s k n n0 (by omega)
  have g1 : sg s = s := by unfold sg; rw [if_neg (by omega)]
  have g2 : sg n = n := by unfold sg; rw [if_neg (by omega)]
  refine ⟨by rw [hH, g1], hC, by rw [hL, g2], ?_⟩
  unfold isKey
  rw [hH, hC, hL, g1, g2]
  exact decide_eq_true ⟨⟨s0, k0, k1, n0⟩, rfl⟩
end Go.Proofs.YtpcllegjnbeppaaGreat.tbc

namespace Go.Proofs.YtpcllegjnbeppaaGreat.tbd
open Go.RowKit Go.PlainAid Go.Maps Go.Shelf
open Go.Proofs.YtpcllegjnbeppaaGreat.kp Go.Proofs.YtpcllegjnbeppaaGreat.ka Go.Proofs.YtpcllegjnbeppaaGreat.ya Go.Proofs.YtpcllegjnbeppaaGreat.yb Go.Proofs.YtpcllegjnbeppaaGreat.yc Go.Proofs.YtpcllegjnbeppaaGreat.yd Go.Proofs.YtpcllegjnbeppaaGreat.ye Go.Proofs.YtpcllegjnbeppaaGreat.yf Go.Proofs.YtpcllegjnbeppaaGreat.yg Go.Proofs.YtpcllegjnbeppaaGreat.yi Go.Proofs.YtpcllegjnbeppaaGreat.yj Go.Proofs.YtpcllegjnbeppaaGreat.yk Go.Proofs.YtpcllegjnbeppaaGreat.yl
open Go.Proofs.YtpcllegjnbeppaaGreat.tqa Go.Proofs.YtpcllegjnbeppaaGreat.tba Go.Proofs.YtpcllegjnbeppaaGreat.tbb Go.Proofs.YtpcllegjnbeppaaGreat.tbc
open Go.Proofs.YtpcllegjnbeppaaGreat.tqb (over keyC keyNo isKindC kindKeysC kindT kindT_size spaceC spaceT spaceT_size)
set_option linter.unusedVariables false
set_option linter.unusedSimpArgs false
-- rows of numbers
theorem info3 : (Tryz.prog.info? 3).map (fun i => (i.zero, i.size, i.bytes)) = some (some (.int .i64 0), 1, 8) := by kernel_rfl
theorem new_num (W : World) (u : Value) (t : TypeId) : ∀ (j : Nat) (x : Value), [u][j]? = some x → (W.alloc (.cells #[u] t)).cell? (Addr.add ⟨W.heap.size, 0, none⟩ j) = some x := new_text W u t
theorem one_num (x : Int) : ∀ u ∈ [Value.int .i64 x], u.oneCell' = true := by intro u hu; simp at hu; subst hu; rfl
def numOf (k : ByteArray) : Option Int := if isKey k then some (sg (kL k)) else none
def nums (l : List ByteArray) : List Int := l.filterMap numOf
theorem nums_next (l : List ByteArray) (k : ByteArray) : nums (l ++ [k]) = nums l ++ (if isKey k then [sg (kL k)] else []) := by
  unfold nums
  rw [List.filterMap_append]
  congr 1
  unfold numOf
  cases h : isKey k <;> simp [List.filterMap, h]
def numbersS (s : S) (sp k : Int) : List Int := if 0 ≤ sp ∧ 1 ≤ k ∧ k ≤ 255 then nums (keysS s (kindT sp k)) else []
theorem keys_ok {s : S} (h : OkS s) (p : ByteArray) : (keysS s p).length < 3518437208883 ∧ ∀ x ∈ keysS s p, x.size ≤ 64 := by
  unfold keysS
  split
  · exact ⟨by simp, fun x hx => by cases hx⟩
  · have h1 := h.lnow
    constructor
    · unfold keysL
      rw [List.length_map]
      exact Nat.lt_of_le_of_lt (List.length_filter_le _ _) h1
    · intro x hx
      obtain ⟨p, hp, rfl⟩ := List.mem_map.1 hx
      exact (h.now p (List.mem_filter.1 hp).1).2.1
theorem take_next {α : Type} {l : List α} {i : Nat} {x : α} (h : l[i]? = some x) : l.take (i + 1) = l.take i ++ [x] := by
  rw [List.take_add_one, h]; rfl
theorem nums_len (l : List ByteArray) : (nums l).length ≤ l.length := List.length_filterMap_le _ _
set_option maxRecDepth 100000 in
set_option maxHeartbeats 6400000 in
theorem numbersC {B g bn bd : Nat} {pv : Value} {s : S} {w : World} (sp k : Int) (h : Sr B g bn bd pv s w) (h1 : sp ≤ 9223372036854775807) :
    Calls Tryz.prog 30 #[.pointer (some ⟨g, 0, none⟩), .int .i64 sp, .int .i64 k] w fun e w' => ∃ v, e = .returned v ∧ w'.ownsRow w.heap.size 3 1 v (numbersS s sp k).length ((numbersS s sp k).map (Value.int .i64)) ∧ Below w.heap.size w w' := by
  have H : Hid (Sr B g bn bd pv s w) := h
  have CK : Hid (∀ w, Calls _ _ _ _ _) := fun w => isKindC k w
  unfold numbersS
  by_cases hk : 0 ≤ sp ∧ 1 ≤ k ∧ k ≤ 255
  · rw [if_pos hk]
    rw [decide_eq_true hk.2] at CK
    have hs0 : ¬ sp < 0 := by omega
    have C1 : Hid (∀ w, Calls _ _ _ _ _) := fun w => kindKeysC sp k w hk.1 h1 (by omega) hk.2.2
    have C2 : Hid (∀ w1, Below w.heap.size w w1 → Calls _ _ _ _ _) := fun w1 b => keysC (kindT sp k) (sr_later H.out b)
    have hko := keys_ok h.ok (kindT sp k)
    generalize kindT sp k = K at *
    obtain ⟨ks, HKS⟩ : ∃ ks, Hid (keysS s K = ks) := ⟨_, rfl⟩
    rw [HKS.out] at C2 hko ⊢
    have hlen := hko.1
    have HZ : Hid _ := hko.2
    obtain ⟨i3, hi, hz0, hz1, hz2⟩ := info_parts info3
    have HIN : Hid (_ ∧ _ ∧ _ ∧ _) := ⟨hi, hz0, hz1, hz2⟩
    clear h hk hko hi hz0 hz1 hz2
    go_enter Tryz.func30, Tryz.ntmps30
    go_wp2_with fail
    refine (CK.out _).mono ?_
    rintro _ _ ⟨rfl, hw⟩; rw [hw]; clear hw
    go_wp2_with fail
    refine (C1.out _).mono ?_
    rintro _ w1 ⟨rfl, b1⟩
    go_wp2_with fail
    refine (C2.out _ b1).mono ?_
    rintro _ w2 ⟨v, rfl, hrow, b2⟩
    have B2 : Hid (Below w.heap.size w w2) := over b1 b2
    have HRD : Hid (ReadsT w2 v ks) := own_readsT hrow
    clear b1 b2 hrow
    obtain ⟨ka', kc, rfl, _, _⟩ := HRD.out
    go_wp2_with fail
    go_loopw [7, 26] (fun lv iv wr => ∃ i : Nat, i ≤ ks.length ∧ iv = .int .i64 i ∧ Hid (wr.ownsRow w2.heap.size 3 1 lv (nums (ks.take i)).length ((nums (ks.take i)).map (Value.int .i64)) ∧ Below w2.heap.size w2 wr)) (fun _ iv _ => (ks.length - intOf iv).toNat)
    case atStart => exact ⟨0, by omega, rfl, World.ownsRow_nil _ _ _ _, Below.refl _ _⟩
    case round =>
      obtain ⟨i, hil, rfl, HH⟩ := hrel
      obtain ⟨ma, mc, hform⟩ := own_formS HH.out.1
      subst hform
      by_cases hlt : i < ks.length
      · have g1 : (i : Int) < ks.length := by omega
        obtain ⟨x, hx⟩ : ∃ x, ks[i]? = some x := ⟨_, List.getElem?_eq_getElem hlt⟩
        have CR : Hid (∀ w, Calls _ _ _ _ _) := fun w => readKeyC x w (by have := HZ.out x (List.mem_of_getElem? hx); omega)
        obtain ⟨la', lc', e0, _, hcl⟩ := HRD.out.later HH.out.2
        injection e0 with e1 e2 e3
        subst e1
        rcases hcl with h0 | ⟨lb, lo', rfl, hcl⟩
        · omega
        have cx : wr.cell? ⟨lb, lo' + i, none⟩ = some (.string x) := by
          have h := hcl i hlt
          rw [List.getD, hx] at h
          exact h
        have HT : Hid _ := take_next hx
        have HN : Hid _ := nums_next (ks.take i) x
        have hnl : (nums (ks.take i)).length ≤ i := by have h1 := nums_len (ks.take i); rw [List.length_take] at h1; omega
        clear hcl e2 e3 hx
        unfold rkV at CR
        obtain ⟨y, HY⟩ : ∃ y, Hid (sg (kL x) = y) := ⟨_, rfl⟩
        rw [HY.out] at CR HN
        cases hik : isKey x with
        | false =>
          rw [hik] at CR HN
          clear hik
          go_wp2_with fail
          refine (CR.out _).mono ?_
          rintro _ w5 ⟨rfl, b5⟩
          have O5 : Hid (World.ownsRow _ _ _ _ _ _ _) := own_kp HH.out.1 (Kp.of_below (A := fun _ => False) b5) (fun _ _ e => e)
          have B5 : Hid (Below w2.heap.size w2 w5) := over HH.out.2 b5
          clear b5
          simp only [Bool.false_eq_true, if_false]
          go_wp2
          go_roundw
          case rel => exact ⟨i + 1, by omega, by go_num, by rw [HT.out, HN.out]; simpa using O5.out, B5.out⟩
          case measure => simp [intOf]; omega
        | true =>
          rw [hik] at CR HN
          clear hik
          go_wp2_with fail
          refine (CR.out _).mono ?_
          rintro _ w5 ⟨rfl, b5⟩
          have O5 : Hid ((w5.alloc (.cells #[.int .i64 y] 3)).ownsRow w2.heap.size 3 1 (.slice ma (nums (ks.take i)).length mc) (nums (ks.take i)).length ((nums (ks.take i)).map (Value.int .i64))) := (own_kp HH.out.1 (Kp.of_below (A := fun _ => False) b5) (fun _ _ e => e)).alloc _
          have hB5 := over HH.out.2 b5
          have hsz5 : w2.heap.size ≤ w5.heap.size := hB5.size
          have B5 : Hid (Below w2.heap.size w2 (w5.alloc (.cells #[.int .i64 y] 3))) := hB5.alloc hB5.size _
          clear b5 hB5
          simp only [if_true]
          go_wp2_with (first | (at_builtin; (refine wpList_append_own _ rfl _ _ 63 rfl w2.heap.size 3 i3 (.int .i64 0) 1 8 Tryz.underlying63 HIN.out.1 HIN.out.2.1 HIN.out.2.2.1 HIN.out.2.2.2 rfl (by decide) _ (nums (ks.take i)).length _ rfl O5.out ⟨w5.heap.size, 0, none⟩ 1 1 [.int .i64 y] rfl rfl (new_num _ _ _) (one_num _) (by unfold maxLen; omega) (by omega) (by simp; omega) ?_; intro v' w7 ho hg hnn; have HO3 : Hid (World.ownsRow _ _ _ _ _ _ _) := ho; have HG3 : Hid (World.grownBy _ _ _) := hg; clear ho hg hnn)) | go_in)
          go_roundw
          case rel =>
            refine ⟨i + 1, by omega, by go_num, ?_, ?_⟩
            · rw [HT.out, HN.out, if_pos trivial, List.map_append, List.length_append]
              exact HO3.out
            · exact B5.out.grown HG3.out (by simp; omega) (fun j hj => (O5.out.lt _ hj).1)
          case measure => simp [intOf]; omega
      · have g1 : ¬ (i : Int) < ks.length := by omega
        obtain rfl : i = ks.length := by omega
        have HF : Hid (ks.take ks.length = ks) := List.take_length
        rw [HF.out] at HH
        go_wp2
        go_ret
        exact ⟨_, rfl, ⟨HH.out.1.1, by
          rcases HH.out.1.2 with h | ⟨g', cap, cur, e, hb, hrest⟩
          · exact .inl h
          · exact .inr ⟨g', cap, cur, e, Nat.le_trans B2.out.size hb, hrest⟩⟩, over B2.out HH.out.2⟩
  · rw [if_neg hk]
    by_cases hs0 : sp < 0
    · clear h hk
      go_enter Tryz.func30, Tryz.ntmps30
      go_wp2
      go_ret
      exact ⟨_, rfl, World.ownsRow_nil _ _ _ _, Below.refl _ _⟩
    · rw [decide_eq_false (fun h2 => hk ⟨by omega, h2⟩)] at CK
      clear h hk
      go_enter Tryz.func30, Tryz.ntmps30
      go_wp2_with fail
      refine (CK.out _).mono ?_
      rintro _ _ ⟨rfl, hw⟩; rw [hw]; clear hw
      go_wp2
      go_ret
      exact ⟨_, rfl, World.ownsRow_nil _ _ _ _, Below.refl _ _⟩
end Go.Proofs.YtpcllegjnbeppaaGreat.tbd

namespace Go.Proofs.YtpcllegjnbeppaaGreat.tbe
open Go.RowKit Go.PlainAid Go.Maps Go.Shelf
open Go.Proofs.YtpcllegjnbeppaaGreat.kp Go.Proofs.YtpcllegjnbeppaaGreat.ka Go.Proofs.YtpcllegjnbeppaaGreat.ya Go.Proofs.YtpcllegjnbeppaaGreat.yb Go.Proofs.YtpcllegjnbeppaaGreat.yc Go.Proofs.YtpcllegjnbeppaaGreat.yd Go.Proofs.YtpcllegjnbeppaaGreat.ye Go.Proofs.YtpcllegjnbeppaaGreat.yf Go.Proofs.YtpcllegjnbeppaaGreat.yg Go.Proofs.YtpcllegjnbeppaaGreat.yi Go.Proofs.YtpcllegjnbeppaaGreat.yj Go.Proofs.YtpcllegjnbeppaaGreat.yk Go.Proofs.YtpcllegjnbeppaaGreat.yl
open Go.Proofs.YtpcllegjnbeppaaGreat.tqa Go.Proofs.YtpcllegjnbeppaaGreat.tba Go.Proofs.YtpcllegjnbeppaaGreat.tbb Go.Proofs.YtpcllegjnbeppaaGreat.tbc Go.Proofs.YtpcllegjnbeppaaGreat.tbd
open Go.Proofs.YtpcllegjnbeppaaGreat.tqb (over spaceC spaceT spaceT_size)
set_option linter.unusedVariables false
set_option linter.unusedSimpArgs false
def wipeL : List ByteArray → S → Int × S
  | [], s => (0, s)
  | k :: ks, s => if (cutS s k).1 = 0 then wipeL ks (cutS s k).2 else cutS s k
def wipeS (s : S) (sp : Int) : (Int × Int) × S :=
  if sp < 0 then ((0, 10), s) else if s.off then ((0, 124), s)
  else if (wipeL (keysS s (spaceT sp)) s).1 = 0 then (((keysS s (spaceT sp)).length, 0), (wipeL (keysS s (spaceT sp)) s).2) else ((0, (wipeL (keysS s (spaceT sp)) s).1), (wipeL (keysS s (spaceT sp)) s).2)
theorem cut_len (s : S) (k : ByteArray) : (cutS s k).2.dur = s.dur ∧ (cutS s k).2.pend.length ≤ s.pend.length + 1 := by
  unfold cutS
  split
  · exact ⟨rfl, by simp⟩
  · split
    · rw [dur_spend, pend_spend]; exact ⟨rfl, by simp [addW]⟩
    · exact ⟨rfl, by simp⟩
theorem sr_pv {B g bn bd : Nat} {p1 p2 : Value} {s : S} {w : World} (h1 : Sr B g bn bd p1 s w) (h2 : Sr B g bn bd p2 s w) : p1 = p2 := by
  have a := h1.row.c2
  have b := h2.row.c2
  rw [a] at b
  exact Option.some.inj b
theorem drop_next {α : Type} {l : List α} {i : Nat} {x : α} (h : l[i]? = some x) : l.drop i = x :: l.drop (i + 1) := by
  obtain ⟨h1, rfl⟩ := List.getElem?_eq_some_iff.1 h
  exact List.drop_eq_getElem_cons h1
set_option maxRecDepth 100000 in
set_option maxHeartbeats 6400000 in
theorem wipeC {B g bn bd : Nat} {pv : Value} {s : S} {w : World} (sp : Int) (h : Sr B g bn bd pv s w) (h1 : sp ≤ 9223372036854775807) (hl : 2 * (s.dur.length + s.pend.length) + 1 < 3518437208883) (hB : B ≤ w.heap.size) :
    Calls Tryz.prog 35 #[.pointer (some ⟨g, 0, none⟩), .int .i64 sp] w fun e w' => e = .returned (.tuple #[.int .i64 (wipeS s sp).1.1, .int .i64 (wipeS s sp).1.2]) ∧ Rn B g bn bd pv (wipeS s sp).2 w w' := by
  have H : Hid (Sr B g bn bd pv s w) := h
  unfold wipeS
  by_cases hs0 : sp < 0
  · rw [if_pos hs0]
    clear h
    go_enter Tryz.func35, Tryz.ntmps35
    go_wp2
    go_ret2
    exact ⟨rfl, Rn.refl H.out⟩
  rw [if_neg hs0]
  have CD : Hid (Calls _ _ _ _ _) := downC h.row
  cases ho : s.off with
  | true =>
    rw [ho] at CD
    rw [if_pos rfl]
    clear h
    go_enter Tryz.func35, Tryz.ntmps35
    go_wp2_with fail
    refine CD.out.mono ?_
    rintro _ _ ⟨rfl, hw⟩; rw [hw]; clear hw
    go_wp2
    go_ret2
    exact ⟨rfl, Rn.refl H.out⟩
  | false =>
    rw [ho] at CD
    rw [if_neg (by simp)]
    have C1 : Hid (∀ w, Calls _ _ _ _ _) := fun w => spaceC sp w (by omega) h1
    have C2 : Hid (∀ w1, Below w.heap.size w w1 → Calls _ _ _ _ _) := fun w1 b => keysC (spaceT sp) (sr_later H.out b)
    have hko := keys_ok h.ok (spaceT sp)
    have hkl : (keysS s (spaceT sp)).length ≤ s.dur.length + s.pend.length := by
      unfold keysS
      split
      · exact Nat.zero_le _
      · unfold keysL
        rw [List.length_map]
        exact Nat.le_trans (List.length_filter_le _ _) (len_do _ _)
    generalize spaceT sp = K at *
    obtain ⟨ks, HKS⟩ : ∃ ks, Hid (keysS s K = ks) := ⟨_, rfl⟩
    rw [HKS.out] at C2 hko hkl ⊢
    have hlen := hko.1
    have HZ : Hid _ := hko.2
    have hcut : Hid (∀ s' pv' w1 (k : ByteArray), Sr B g bn bd pv' s' w1 → k.size ≤ 64 → s'.dur.length + s'.pend.length + 1 < 3518437208883 → B ≤ w1.heap.size → Calls _ _ _ _ _) := fun s' pv' w1 k h' hk hl' hB' => cutC k h' (by omega) hl' hB'
    have HL0 : Hid (2 * (s.dur.length + s.pend.length) + 1 < 3518437208883 ∧ ks.length ≤ s.dur.length + s.pend.length) := ⟨hl, hkl⟩
    obtain ⟨rs, HRS⟩ : ∃ rs, Hid (wipeL ks s = rs) := ⟨_, rfl⟩
    rw [HRS.out]
    obtain ⟨fv, HFV⟩ : ∃ fv, Hid ((if rs.1 = 0 then (((ks.length : Int), (0 : Int)), rs.2) else ((0, rs.1), rs.2)) = fv) := ⟨_, rfl⟩
    rw [HFV.out]
    clear h hko hl hkl ho
    go_enter Tryz.func35, Tryz.ntmps35
    go_wp2_with fail
    refine CD.out.mono ?_
    rintro _ _ ⟨rfl, hw⟩; rw [hw]; clear hw
    go_wp2_with fail
    refine (C1.out _).mono ?_
    rintro _ w1 ⟨rfl, b1⟩
    go_wp2_with fail
    refine (C2.out _ b1).mono ?_
    rintro _ w2 ⟨v, rfl, hrow, b2⟩
    have B2 : Hid (Below w.heap.size w w2) := over b1 b2
    have O2 : Hid (w2.ownsRow w1.heap.size 9 1 v ks.length (ks.map Value.string)) := hrow
    clear b1 b2 hrow
    obtain ⟨ka', kc, hform⟩ := own_formS O2.out
    subst hform
    go_wp2_with fail
    go_loopw [20] (fun iv wr => ∃ (i : Nat) (s' : S), i ≤ ks.length ∧ iv = .int .i64 i ∧ Hid (wipeL (ks.drop i) s' = rs ∧ s'.dur.length + s'.pend.length ≤ s.dur.length + s.pend.length + i) ∧ Hid (Rn B g bn bd pv s' w2 wr ∧ wr.ownsRow w1.heap.size 9 1 (.slice ka' ks.length kc) ks.length (ks.map Value.string))) (fun iv _ => (ks.length - intOf iv).toNat)
    case atStart => exact ⟨0, s, by omega, rfl, ⟨HRS.out, by omega⟩, Rn.refl (sr_later H.out B2.out), O2.out⟩
    case round =>
      obtain ⟨i, s', hil, rfl, HW, HH⟩ := hrel
      by_cases hlt : i < ks.length
      · have g1 : (i : Int) < ks.length := by omega
        obtain ⟨x, hx⟩ : ∃ x, ks[i]? = some x := ⟨_, List.getElem?_eq_getElem hlt⟩
        obtain ⟨pv', h', k', n'⟩ := HH.out.1
        have hsz : B ≤ wr.heap.size := by have := k'.size; have := B2.out.size; omega
        have hl2 : s'.dur.length + s'.pend.length + 1 < 3518437208883 := by have h1 := HW.out.2; have h2 := HL0.out; omega
        have CC : Hid (Calls _ _ _ _ _) := hcut.out s' pv' wr x h' (HZ.out x (List.mem_of_getElem? hx)) hl2 hsz
        have HS' : Hid (Sr B g bn bd pv' s' wr) := h'
        have HD : Hid _ := drop_next hx
        have HCL : Hid _ := cut_len s' x
        obtain ⟨a', c', e0, _, hcl⟩ := own_readsT HH.out.2
        injection e0 with e1 e2 e3
        subst e1
        rcases hcl with h0 | ⟨lb, lo', rfl, hcl⟩
        · omega
        have cx : wr.cell? ⟨lb, lo' + i, none⟩ = some (.string x) := by
          have h := hcl i hlt
          rw [List.getD, hx] at h
          exact h
        clear hcl e2 e3 hx h' k' n' hl2 hsz
        obtain ⟨cs, HCS⟩ : ∃ cs, Hid (cutS s' x = cs) := ⟨_, rfl⟩
        rw [HCS.out] at CC HCL
        have HWW : Hid ((if cs.1 = 0 then wipeL (ks.drop (i + 1)) cs.2 else cs) = rs) := by
          have h := HW.out.1
          rw [HD.out, wipeL, HCS.out] at h
          exact h
        obtain ⟨ce, c2⟩ := cs
        by_cases hce : ce = 0
        · subst hce
          have HW2 : Hid (wipeL (ks.drop (i + 1)) c2 = rs) := by have h9 := HWW.out; rw [if_pos rfl] at h9; exact h9
          go_wp2_with fail
          refine CC.out.mono ?_
          rintro _ w5 ⟨rfl, r5⟩
          have R5 : Hid (Rn B g bn bd pv' c2 wr w5) := r5
          clear r5
          go_wp2
          go_roundw
          case rel =>
            refine ⟨i + 1, c2, by omega, by go_num, ⟨HW2.out, ?_⟩, ?_, ?_⟩
            · have h1 : c2.dur = s'.dur ∧ c2.pend.length ≤ s'.pend.length + 1 := HCL.out
              have h2 := HW.out.2
              rw [h1.1]; omega
            · exact HH.out.1.trans (fun p'' h'' => by
                have e := sr_pv h'' HS'.out
                subst e
                exact R5.out)
            · obtain ⟨_, _, k5, _⟩ := R5.out
              exact own_kp HH.out.2 k5 (fun j hj hF => row_apart (by decide) (by decide) HS'.out HH.out.2 j hF hj)
          case measure => simp [intOf]; omega
        · have hce' : (ce != 0) = true := by rw [bne_iff_ne]; exact hce
          have HW2 : Hid (rs = (ce, c2) ∧ ¬ rs.1 = 0) := by
            have h := HWW.out
            rw [if_neg hce] at h
            exact ⟨h.symm, by rw [← h]; exact hce⟩
          clear hce
          go_wp2_with fail
          refine CC.out.mono ?_
          rintro _ w5 ⟨rfl, r5⟩
          have R5 : Hid (Rn B g bn bd pv' c2 wr w5) := r5
          clear r5
          go_wp2
          go_ret2
          have hfv : fv = ((0, ce), c2) := by rw [← HFV.out, if_neg HW2.out.2, HW2.out.1]
          subst hfv
          refine ⟨rfl, ?_⟩
          exact rn_pre B2.out (HH.out.1.trans (fun p'' h'' => by
            have e := sr_pv h'' HS'.out
            subst e
            exact R5.out))
      · have g1 : ¬ (i : Int) < ks.length := by omega
        obtain rfl : i = ks.length := by omega
        have HR : Hid (rs = (0, s')) := by
          have h := HW.out.1
          rw [List.drop_length] at h
          exact h.symm
        go_wp2
        go_ret2
        have hfv : fv = (((ks.length : Int), (0 : Int)), s') := by rw [← HFV.out, HR.out, if_pos rfl]
        subst hfv
        refine ⟨rfl, ?_⟩
        exact rn_pre B2.out HH.out.1
-- two lists of numbers alike
def ReadsN (w : World) (v : Value) (xs : List Int) : Prop :=
  ∃ a cap, v = .slice a xs.length cap ∧ (xs.length = 0 ∨ ∃ b off, a = some ⟨b, off, none⟩ ∧ ∀ i, i < xs.length → w.cell? ⟨b, off + i, none⟩ = some (.int .i64 (xs.getD i 0)))
theorem ReadsN.later {w w' : World} {v : Value} {xs : List Int} (h : ReadsN w v xs) (hb : Below w.heap.size w w') : ReadsN w' v xs := by
  obtain ⟨a, cap, rfl, h0 | ⟨b, off, rfl, hh⟩⟩ := h
  · exact ⟨a, cap, rfl, .inl h0⟩
  · refine ⟨_, cap, rfl, .inr ⟨b, off, rfl, fun i hi => ?_⟩⟩
    have := hh i hi
    exact (hb.cell (p := ⟨b, off + i, none⟩) (World.block_lt_of_cell? _ _ this)).trans this
theorem own_readsN {w : World} {B n : Nat} {v : Value} {xs : List Int} (h : w.ownsRow B 3 1 v n (xs.map (Value.int .i64))) : ReadsN w v xs := by
  obtain ⟨hl, ⟨rfl, h0⟩ | ⟨g, cap, cur, rfl, hg, hh, h1, h2, h3, h4⟩⟩ := h
  · have e : xs.length = 0 := by simpa [h0] using hl
    exact ⟨none, 0, by rw [e], .inl e⟩
  · have e : xs.length = n := by simpa using hl
    refine ⟨_, cap, by rw [e], .inr ⟨g, 0, rfl, fun i hi => ?_⟩⟩
    rw [Nat.zero_add, cell_of_row _ _ _ _ _ _ hh]
    have h5 := congrArg (·[i]?) h4
    simp only [List.getElem?_take, List.getElem?_map, Nat.mul_one] at h5
    rw [if_pos (by omega), Array.getElem?_toList] at h5
    rw [h5, List.getD, List.getElem?_eq_getElem hi]
    rfl
theorem same_int (a b : Int) : (a != b) = !decide (a = b) := by
  by_cases h : a = b
  · subst h; simp
  · rw [decide_eq_false h]; simp [h]
set_option maxRecDepth 100000 in
set_option maxHeartbeats 3200000 in
theorem sameIntsC (v1 v2 : Value) (xs ys : List Int) (w : World) (h1 : ReadsN w v1 xs) (h2 : ReadsN w v2 ys) (hx : xs.length ≤ 140737488351232) (hy : ys.length ≤ 140737488351232) (he : xs = ys) :
    Calls Tryz.prog 31 #[v1, v2] w fun e w' => e = .returned (.bool true) ∧ Below w.heap.size w w' := by
  subst he
  obtain ⟨a1, c1, rfl, k1⟩ := h1
  obtain ⟨a2, c2, rfl, k2⟩ := h2
  have K1 : Hid _ := k1
  have K2 : Hid _ := k2
  obtain ⟨n, HN⟩ : ∃ n, Hid (xs.length = n) := ⟨_, rfl⟩
  rw [HN.out] at K1 K2 hx ⊢
  clear k1 k2 hy
  go_enter Tryz.func31, Tryz.ntmps31
  go_wp2_with fail
  go_loopw [5] (fun iv wr => ∃ i : Nat, i ≤ n ∧ iv = .int .i64 i ∧ Hid (Below w.heap.size w wr)) (fun iv _ => (n - intOf iv).toNat)
  case atStart => exact ⟨0, by omega, rfl, Below.refl _ _⟩
  case round =>
    obtain ⟨i, hi, rfl, HB⟩ := hrel
    by_cases hlt : i < n
    · have g1 : (i : Int) < n := by omega
      rcases K1.out with h0 | ⟨b1, o1, rfl, k1⟩
      · omega
      rcases K2.out with h0 | ⟨b2, o2, rfl, k2⟩
      · omega
      have d1 := k1 i hlt
      have d2 := k2 i hlt
      have e1 : wr.cell? ⟨b1, o1 + i, none⟩ = some (.int .i64 (xs.getD i 0)) := (HB.out.cell (World.block_lt_of_cell? _ _ d1)).trans d1
      have e2 : wr.cell? ⟨b2, o2 + i, none⟩ = some (.int .i64 (xs.getD i 0)) := (HB.out.cell (World.block_lt_of_cell? _ _ d2)).trans d2
      generalize xs.getD i 0 = z at *
      clear k1 k2 d1 d2
      go_upto_region 6 with fail
      go_region
      go_wp2
      go_roundw
      case rel => exact ⟨i + 1, by omega, by go_num, HB.out.drew⟩
      case measure => simp [intOf]; omega
    · have g1 : ¬ (i : Int) < n := by omega
      go_wp2
      go_ret
      exact ⟨rfl, HB.out⟩
end Go.Proofs.YtpcllegjnbeppaaGreat.tbe

namespace Go.Proofs.YtpcllegjnbeppaaGreat.tbf
open Go.RowKit Go.PlainAid Go.Maps Go.Shelf
open Go.Proofs.YtpcllegjnbeppaaGreat.ya Go.Proofs.YtpcllegjnbeppaaGreat.yc Go.Proofs.YtpcllegjnbeppaaGreat.yd Go.Proofs.YtpcllegjnbeppaaGreat.ye Go.Proofs.YtpcllegjnbeppaaGreat.yf Go.Proofs.YtpcllegjnbeppaaGreat.yi Go.Proofs.YtpcllegjnbeppaaGreat.yk
open Go.Proofs.YtpcllegjnbeppaaGreat.tqa Go.Proofs.YtpcllegjnbeppaaGreat.tba Go.Proofs.YtpcllegjnbeppaaGreat.tbb Go.Proofs.YtpcllegjnbeppaaGreat.tbc Go.Proofs.YtpcllegjnbeppaaGreat.tbd Go.Proofs.YtpcllegjnbeppaaGreat.tbe
open Go.Proofs.YtpcllegjnbeppaaGreat.nb (str str_size)
open Go.Proofs.YtpcllegjnbeppaaGreat.tpa (lowB lowB_length)
open Go.Proofs.YtpcllegjnbeppaaGreat.tqb (kindT kindT_size spaceT spaceT_size key_is)
open Go.Proofs.YtpcllegjnbeppaaGreat.tqc (key_less key_same)
open Go.Proofs.YtpcllegjnbeppaaGreat.tlo (keys_apart bget_frame)
set_option linter.unusedVariables false
set_option linter.unusedSimpArgs false
theorem less_is (l m : List UInt8) : Op.bytesLess l m = bytesBefore l m := by
  induction l generalizing m with
  | nil => cases m <;> rfl
  | cons x l ih =>
    cases m with
    | nil => rfl
    | cons y m => show (decide (x < y) || (x == y && Op.bytesLess l m)) = _; rw [ih]; rfl
def okI (x : Int) : Prop := 0 ≤ x ∧ x ≤ 9223372036854775807
theorem key_lt {t k x y : Int} (ht : okI t) (hk : 1 ≤ k ∧ k ≤ 255) (hx : okI x) (hy : okI y) : lt (keyT t k x) (keyT t k y) = decide (x < y) := by
  have h := key_less t k x t k y ht.1 ht.2 (by omega) hk.2 hx.1 hx.2 ht.1 ht.2 (by omega) hk.2 hy.1 hy.2
  rw [less_is, ByteArray.toList_eq, ByteArray.toList_eq] at h
  unfold lt bs
  rw [h, decide_eq_decide]
  omega
-- what keys begin with
theorem app_bs (a b : ByteArray) : bs (a ++ b) = bs a ++ bs b := by unfold bs; rw [ByteArray.data_append, Array.toList_append]
theorem prefix_of (p q a : ByteArray) (h : p.size = q.size) : Lib.hasPrefix (bs (p ++ a)) (bs q) = decide (p = q) := by
  unfold Lib.hasPrefix
  rw [app_bs]
  have hl : (bs p).length = (bs q).length := by rw [bs_len, bs_len]; exact h
  by_cases e : p = q
  · subst e
    rw [decide_eq_true rfl]
    exact List.isPrefixOf_iff_prefix.2 (List.prefix_append _ _)
  · rw [decide_eq_false e]
    cases hh : (bs q).isPrefixOf (bs p ++ bs a) with
    | false => rfl
    | true =>
      obtain ⟨z, hz⟩ := List.isPrefixOf_iff_prefix.1 hh
      have := (List.append_inj hz hl.symm).1
      exact absurd (bs_inj this).symm e
theorem kind_inj {t l s k : Int} (ht : okI t) (hl : 1 ≤ l ∧ l ≤ 255) (hs : okI s) (hk : 1 ≤ k ∧ k ≤ 255) (h : kindT t l = kindT s k) : t = s ∧ l = k := by
  have e : keyT t l 0 = keyT s k 0 := by rw [key_is, key_is, h]
  by_cases hh : t = s ∧ l = k
  · exact hh
  · exact absurd e (keys_apart t l 0 s k 0 ht.1 ht.2 (by omega) hl.2 (by omega) (by omega) hs.1 hs.2 (by omega) hk.2 (by omega) (by omega) (fun h2 => hh ⟨h2.1, h2.2.1⟩))
theorem kind_is (s k : Int) : kindT s k = spaceT s ++ str [k] := by
  rw [spaceT, str_app, kindT]; rfl
theorem space_inj {t s : Int} (ht : okI t) (hs : okI s) (h : spaceT t = spaceT s) : t = s :=
  (kind_inj ht (l := 1) (by omega) hs (k := 1) (by omega) (by rw [kind_is, kind_is, h])).1
theorem pre_kind {t l m s k : Int} (ht : okI t) (hl : 1 ≤ l ∧ l ≤ 255) (hs : okI s) (hk : 1 ≤ k ∧ k ≤ 255) : Lib.hasPrefix (bs (keyT t l m)) (bs (kindT s k)) = decide (t = s ∧ l = k) := by
  rw [key_is, prefix_of _ _ _ (by rw [kindT_size, kindT_size]), decide_eq_decide]
  exact ⟨kind_inj ht hl hs hk, fun h => by rw [h.1, h.2]⟩
theorem pre_space {t l m s : Int} (ht : okI t) (hs : okI s) : Lib.hasPrefix (bs (keyT t l m)) (bs (spaceT s)) = decide (t = s) := by
  rw [key_is, kind_is, app_assoc, prefix_of _ _ _ (by rw [spaceT_size, spaceT_size]), decide_eq_decide]
  exact ⟨space_inj ht hs, fun h => by rw [h]⟩
-- a space and a kind of it whose records are told
structure Half (k t : Int) (d : ByteArray) (xs : List Int) (R : List Rec) : Prop where
  srt : Srt R
  all : ∀ p ∈ R, Lib.hasPrefix (bs p.1) (bs (kindT t k)) = true → ∃ x ∈ xs, p = (keyT t k x, frameT k x d)
  has : ∀ x ∈ xs, (keyT t k x, frameT k x d) ∈ R
theorem num_key {t k x : Int} (ht : okI t) (hk : 1 ≤ k ∧ k ≤ 255) (hx : okI x) : numOf (keyT t k x) = some x := by
  obtain ⟨_, _, h3, h4⟩ := isKey_of t k x ht.1 ht.2 hk.1 hk.2 hx.1 hx.2
  unfold numOf
  rw [if_pos h4, h3]
theorem half_keys {k t : Int} {d : ByteArray} {xs : List Int} {R : List Rec} (h : Half k t d xs R) (ht : okI t) (hk : 1 ≤ k ∧ k ≤ 255) (hxs : ∀ x ∈ xs, okI x) : ∀ key, key ∈ keysL (kindT t k) R ↔ ∃ x ∈ xs, key = keyT t k x := by
  intro key
  unfold keysL
  rw [List.mem_map]
  constructor
  · rintro ⟨p, hp, rfl⟩
    obtain ⟨h1, h2⟩ := List.mem_filter.1 hp
    obtain ⟨x, hx, rfl⟩ := h.all p h1 h2
    exact ⟨x, hx, rfl⟩
  · rintro ⟨x, hx, rfl⟩
    exact ⟨_, List.mem_filter.2 ⟨h.has x hx, by rw [pre_kind ht hk ht hk]; simp⟩, rfl⟩
theorem half_mem {k t : Int} {d : ByteArray} {xs : List Int} {R : List Rec} (h : Half k t d xs R) (ht : okI t) (hk : 1 ≤ k ∧ k ≤ 255) (hxs : ∀ x ∈ xs, okI x) : ∀ y, y ∈ nums (keysL (kindT t k) R) ↔ y ∈ xs := by
  intro y
  unfold nums
  rw [List.mem_filterMap]
  constructor
  · rintro ⟨key, h1, h2⟩
    obtain ⟨x, hx, rfl⟩ := (half_keys h ht hk hxs key).1 h1
    rw [num_key ht hk (hxs x hx)] at h2
    rw [← Option.some.inj h2]; exact hx
  · intro hy
    exact ⟨_, (half_keys h ht hk hxs _).2 ⟨y, hy, rfl⟩, num_key ht hk (hxs y hy)⟩
theorem half_rise {k t : Int} {d : ByteArray} {xs : List Int} {R : List Rec} (h : Half k t d xs R) (ht : okI t) (hk : 1 ≤ k ∧ k ≤ 255) (hxs : ∀ x ∈ xs, okI x) : (nums (keysL (kindT t k) R)).Pairwise (· < ·) := by
  unfold nums
  rw [List.pairwise_filterMap]
  refine (keysL_srt (pre := kindT t k) h.srt).imp_of_mem ?_
  intro a b ha hb hlt x hx y hy
  obtain ⟨x', hx', rfl⟩ := (half_keys h ht hk hxs a).1 ha
  obtain ⟨y', hy', rfl⟩ := (half_keys h ht hk hxs b).1 hb
  rw [num_key ht hk (hxs x' hx')] at hx
  rw [num_key ht hk (hxs y' hy')] at hy
  rw [key_lt ht hk (hxs x' hx') (hxs y' hy')] at hlt
  rw [← Option.some.inj hx, ← Option.some.inj hy]
  exact of_decide_eq_true hlt
theorem rise_unique {a b : List Int} (ha : a.Pairwise (· < ·)) (hb : b.Pairwise (· < ·)) (h : ∀ x, x ∈ a ↔ x ∈ b) : a = b := by
  have na : a.Nodup := ha.imp (fun h => Int.ne_of_lt h)
  have nb : b.Nodup := hb.imp (fun h => Int.ne_of_lt h)
  exact List.Perm.eq_of_pairwise (le := fun x y : Int => x < y) (fun x y _ _ h1 h2 => by omega) ha hb ((List.perm_ext_iff_of_nodup na nb).2 h)
theorem nums_all {l : List ByteArray} (h : ∀ key ∈ l, (numOf key).isSome = true) : (nums l).length = l.length := by
  induction l with
  | nil => rfl
  | cons x l ih =>
    have h1 := h x (by simp)
    obtain ⟨y, hy⟩ := Option.isSome_iff_exists.1 h1
    unfold nums
    rw [List.filterMap_cons_some hy, List.length_cons, List.length_cons]
    have := ih (fun k hk => h k (by simp [hk]))
    unfold nums at this
    omega
theorem half_len {k t : Int} {d : ByteArray} {xs : List Int} {R : List Rec} (h : Half k t d xs R) (ht : okI t) (hk : 1 ≤ k ∧ k ≤ 255) (hxs : ∀ x ∈ xs, okI x) : (nums (keysL (kindT t k) R)).length = (keysL (kindT t k) R).length := nums_all (fun key hkey => by
  obtain ⟨x, hx, rfl⟩ := (half_keys h ht hk hxs key).1 hkey
  rw [num_key ht hk (hxs x hx)]; rfl)
theorem half_get {k t : Int} {d : ByteArray} {xs : List Int} {R : List Rec} (h : Half k t d xs R) {x : Int} (hx : x ∈ xs) : rget (keyT t k x) R = some (frameT k x d) := (get_some h.srt).2 (h.has x hx)
-- the two of them
structure Two (k s : Int) (a b : ByteArray) (xs : List Int) (R : List Rec) : Prop where
  srt : Srt R
  all : ∀ p ∈ R, ∃ x ∈ xs, p = (keyT s k x, frameT k x a) ∨ p = (keyT (s + 1) k x, frameT k x b)
  ha : ∀ x ∈ xs, (keyT s k x, frameT k x a) ∈ R
  hb : ∀ x ∈ xs, (keyT (s + 1) k x, frameT k x b) ∈ R
theorem Two.nil (k s : Int) (a b : ByteArray) : Two k s a b [] [] := ⟨srt_nil, fun p hp => (by cases hp), fun x hx => (by cases hx), fun x hx => (by cases hx)⟩
theorem Two.add {k s : Int} {a b : ByteArray} {xs : List Int} {R : List Rec} (h : Two k s a b xs R) (hs : okI s) (hs1 : okI (s + 1)) (hk : 1 ≤ k ∧ k ≤ 255) (hxs : ∀ x ∈ xs, okI x) (x : Int) (hx : okI x) : Two k s a b (xs ++ [x]) (put (keyT (s + 1) k x) (frameT k x b) (put (keyT s k x) (frameT k x a) R)) := by
  have hap : ∀ y z, okI y → okI z → keyT s k y ≠ keyT (s + 1) k z := fun y z hy hz => keys_apart s k y (s + 1) k z hs.1 hs.2 (by omega) hk.2 hy.1 hy.2 hs1.1 hs1.2 (by omega) hk.2 hz.1 hz.2 (fun h => by omega)
  have hsame : ∀ t, okI t → ∀ y z, okI y → okI z → y ≠ z → keyT t k y ≠ keyT t k z := fun t ht y z hy hz hne => keys_apart t k y t k z ht.1 ht.2 (by omega) hk.2 hy.1 hy.2 ht.1 ht.2 (by omega) hk.2 hz.1 hz.2 (fun h => hne h.2.2)
  have hok : ∀ y ∈ xs ++ [x], okI y := fun y hy => by
    rcases List.mem_append.1 hy with h1 | h1
    · exact hxs y h1
    · simp at h1; subst h1; exact hx
  refine ⟨srt_put (srt_put h.srt), ?_, ?_, ?_⟩
  · intro p hp
    rcases mem_put.1 hp with rfl | ⟨hp, _⟩
    · exact ⟨x, by simp, .inr rfl⟩
    · rcases mem_put.1 hp with rfl | ⟨hp, _⟩
      · exact ⟨x, by simp, .inl rfl⟩
      · obtain ⟨y, hy, hh⟩ := h.all p hp
        exact ⟨y, List.mem_append_left _ hy, hh⟩
  · intro y hy
    refine mem_put.2 (.inr ⟨?_, hap y x (hok y hy) hx⟩)
    by_cases e : y = x
    · subst e; exact mem_put.2 (.inl rfl)
    · rcases List.mem_append.1 hy with h1 | h1
      · exact mem_put.2 (.inr ⟨h.ha y h1, hsame s hs y x (hok y hy) hx e⟩)
      · simp at h1; exact absurd h1 e
  · intro y hy
    by_cases e : y = x
    · subst e; exact mem_put.2 (.inl rfl)
    · rcases List.mem_append.1 hy with h1 | h1
      · exact mem_put.2 (.inr ⟨mem_put.2 (.inr ⟨h.hb y h1, (hap x y hx (hok y hy)).symm⟩), hsame (s + 1) hs1 y x (hok y hy) hx e⟩)
      · simp at h1; exact absurd h1 e
theorem Two.left {k s : Int} {a b : ByteArray} {xs : List Int} {R : List Rec} (h : Two k s a b xs R) (hs : okI s) (hs1 : okI (s + 1)) (hk : 1 ≤ k ∧ k ≤ 255) (hxs : ∀ x ∈ xs, okI x) : Half k s a xs R := by
  refine ⟨h.srt, fun p hp hpre => ?_, h.ha⟩
  obtain ⟨x, hx, rfl | rfl⟩ := h.all p hp
  · exact ⟨x, hx, rfl⟩
  · rw [pre_kind hs1 hk hs hk] at hpre
    have := of_decide_eq_true hpre
    omega
theorem Two.right {k s : Int} {a b : ByteArray} {xs : List Int} {R : List Rec} (h : Two k s a b xs R) (hs : okI s) (hs1 : okI (s + 1)) (hk : 1 ≤ k ∧ k ≤ 255) (hxs : ∀ x ∈ xs, okI x) : Half k (s + 1) b xs R := by
  refine ⟨h.srt, fun p hp hpre => ?_, h.hb⟩
  obtain ⟨x, hx, rfl | rfl⟩ := h.all p hp
  · rw [pre_kind hs hk hs1 hk] at hpre
    have := of_decide_eq_true hpre
    omega
  · exact ⟨x, hx, rfl⟩
theorem Two.space {k s : Int} {a b : ByteArray} {xs : List Int} {R : List Rec} (h : Two k s a b xs R) (hs : okI s) (hs1 : okI (s + 1)) (hk : 1 ≤ k ∧ k ≤ 255) : keysL (spaceT s) R = keysL (kindT s k) R := by
  unfold keysL
  congr 1
  apply List.filter_congr
  intro p hp
  obtain ⟨x, hx, rfl | rfl⟩ := h.all p hp
  · rw [pre_space hs hs, pre_kind hs hk hs hk, decide_eq_decide]; simp
  · rw [pre_space hs1 hs, pre_kind hs1 hk hs hk, decide_eq_decide]
    constructor
    · intro h; omega
    · intro h; omega
-- what is left behind a Wipe
theorem mem_dels (ks : List ByteArray) (R : List Rec) (p : Rec) : p ∈ ks.foldl (fun r k => del k r) R ↔ p ∈ R ∧ p.1 ∉ ks := by
  induction ks generalizing R with
  | nil => simp
  | cons k ks ih =>
    rw [List.foldl_cons, ih, mem_del]
    simp only [List.mem_cons, not_or]
    constructor
    · rintro ⟨⟨h1, h2⟩, h3⟩; exact ⟨h1, h2, h3⟩
    · rintro ⟨h1, h2, h3⟩; exact ⟨⟨h1, h2⟩, h3⟩
theorem srt_dels (ks : List ByteArray) {R : List Rec} (h : Srt R) : Srt (ks.foldl (fun r k => del k r) R) := by
  induction ks generalizing R with
  | nil => exact h
  | cons k ks ih => exact ih (srt_del h)
theorem Two.wiped {k s : Int} {a b : ByteArray} {xs : List Int} {R : List Rec} (h : Two k s a b xs R) (hs : okI s) (hs1 : okI (s + 1)) (hk : 1 ≤ k ∧ k ≤ 255) (hxs : ∀ x ∈ xs, okI x) :
    Half k (s + 1) b xs ((keysL (spaceT s) R).foldl (fun r k => del k r) R) ∧ keysL (kindT s k) ((keysL (spaceT s) R).foldl (fun r k => del k r) R) = [] := by
  have hL := h.left hs hs1 hk hxs
  have hR := h.right hs hs1 hk hxs
  rw [h.space hs hs1 hk]
  have hks := half_keys hL hs hk hxs
  constructor
  · refine ⟨srt_dels _ h.srt, fun p hp hpre => hR.all p ((mem_dels _ _ _).1 hp).1 hpre, fun x hx => (mem_dels _ _ _).2 ⟨h.hb x hx, fun hin => ?_⟩⟩
    obtain ⟨y, hy, e⟩ := (hks _).1 hin
    exact keys_apart s k y (s + 1) k x hs.1 hs.2 (by omega) hk.2 (hxs y hy).1 (hxs y hy).2 hs1.1 hs1.2 (by omega) hk.2 (hxs x hx).1 (hxs x hx).2 (fun h => by omega) e.symm
  · rw [List.eq_nil_iff_forall_not_mem]
    intro key hkey
    unfold keysL at hkey
    obtain ⟨p, hp, rfl⟩ := List.mem_map.1 hkey
    obtain ⟨h1, h2⟩ := List.mem_filter.1 hp
    obtain ⟨h3, h4⟩ := (mem_dels _ _ _).1 h1
    obtain ⟨x, hx, rfl⟩ := hL.all p h3 h2
    exact h4 ((hks _).2 ⟨x, hx, rfl⟩)
theorem wipe_all (ks : List ByteArray) : ∀ (s : S), s.off = false → s.armed = 0 → (∀ key ∈ ks, 1 ≤ key.size ∧ key.size ≤ 64 ∧ (rget key (now s)).isSome = true) → ks.Nodup → Srt (now s) →
    wipeL ks s = (0, { s with pend := s.pend ++ ks.map fun k => ⟨true, k, ByteArray.empty⟩ }) := by
  induction ks with
  | nil => intro s _ _ _ _ _; simp [wipeL]
  | cons k ks ih =>
    intro s ho ha hall hnd hsrt
    obtain ⟨h1, h2, h3⟩ := hall k (by simp)
    have hr : refS s k = 0 := by unfold refS; rw [ho]; simp [h1, h2]
    have hc : cutS s k = (0, addW s ⟨true, k, ByteArray.empty⟩) := by
      unfold cutS
      rw [if_neg (by simp [hr]), if_pos h3]
      unfold spendS
      rw [if_pos (show (addW s ⟨true, k, ByteArray.empty⟩).armed = 0 from ha)]
    have hn : now (addW s ⟨true, k, ByteArray.empty⟩) = del k (now s) := by rw [now_add]; rfl
    obtain ⟨hnk, hnd2⟩ := List.nodup_cons.1 hnd
    rw [wipeL, hc, if_pos rfl]
    rw [ih (addW s ⟨true, k, ByteArray.empty⟩) ho ha (fun key hkey => by
      obtain ⟨a1, a2, a3⟩ := hall key (by simp [hkey])
      refine ⟨a1, a2, ?_⟩
      rw [hn, get_del_other hsrt (show key ≠ k by rintro rfl; exact hnk hkey)]
      exact a3) hnd2 (by rw [hn]; exact srt_del hsrt)]
    simp [addW]
theorem now_wiped (ks : List ByteArray) (s : S) : now { s with pend := s.pend ++ ks.map fun k => (⟨true, k, ByteArray.empty⟩ : W) } = ks.foldl (fun r k => del k r) (now s) := by
  unfold now
  simp only [List.foldl_append, List.foldl_map]
  rfl
-- the states of the law
def ws (k s : Int) (a b : ByteArray) (xs : List Int) : List W := xs.flatMap fun x => [⟨false, keyT s k x, frameT k x a⟩, ⟨false, keyT (s + 1) k x, frameT k x b⟩]
def sW (k s : Int) (a b : ByteArray) (xs : List Int) : S := ⟨536870912, [], ws k s a b xs, 0, false, 0⟩
theorem sW_add (k s : Int) (a b : ByteArray) (xs : List Int) (x : Int) : addW (addW (sW k s a b xs) ⟨false, keyT s k x, frameT k x a⟩) ⟨false, keyT (s + 1) k x, frameT k x b⟩ = sW k s a b (xs ++ [x]) := by simp [sW, ws, addW]
theorem sW_now (k s : Int) (a b : ByteArray) (xs : List Int) (x : Int) : now (sW k s a b (xs ++ [x])) = put (keyT (s + 1) k x) (frameT k x b) (put (keyT s k x) (frameT k x a) (now (sW k s a b xs))) := by
  rw [← sW_add, now_add, now_add]; rfl
theorem ws_len (k s : Int) (a b : ByteArray) (xs : List Int) : (ws k s a b xs).length = 2 * xs.length := by
  unfold ws
  induction xs with
  | nil => rfl
  | cons x l ih => rw [List.flatMap_cons, List.length_append, ih]; simp; omega
theorem sW_two {k s : Int} {a b : ByteArray} (hs : okI s) (hs1 : okI (s + 1)) (hk : 1 ≤ k ∧ k ≤ 255) : ∀ n (xs : List Int), xs.length = n → (∀ x ∈ xs, okI x) → Two k s a b xs (now (sW k s a b xs)) := by
  intro n
  induction n with
  | zero =>
    intro xs h _
    have : xs = [] := List.length_eq_zero_iff.1 h
    subst this
    exact Two.nil k s a b
  | succ n ih =>
    intro xs h hok
    rcases List.eq_nil_or_concat xs with e | ⟨l, x, e⟩
    · subst e; simp at h
    · subst e
      rw [List.concat_eq_append] at h hok ⊢
      rw [sW_now]
      have hl : l.length = n := by simp at h; exact h
      exact (ih l hl (fun y hy => hok y (by simp [hy]))).add hs hs1 hk (fun y hy => hok y (by simp [hy])) x (hok x (by simp))
theorem tot_bound (c : Nat) {R : List Rec} (h : ∀ p ∈ R, cnt p ≤ c) : tot R ≤ c * R.length := by
  induction R with
  | nil => simp [tot]
  | cons p R ih =>
    have h1 := h p (by simp)
    have h2 := ih (fun q hq => h q (by simp [hq]))
    rw [tot, List.length_cons, Nat.mul_succ]; omega
theorem sW_tot {k s : Int} {a b : ByteArray} (hs : okI s) (hs1 : okI (s + 1)) (hk : 1 ≤ k ∧ k ≤ 255) (ha : a.size = 1) (hb : b.size = 1) (xs : List Int) (hok : ∀ x ∈ xs, okI x) (hl : xs.length ≤ 100) : tot (now (sW k s a b xs)) ≤ 10600 := by
  have h := sW_two (a := a) (b := b) hs hs1 hk xs.length xs rfl hok
  have h1 := tot_bound 53 (R := now (sW k s a b xs)) (fun p hp => by
    obtain ⟨x, hx, rfl | rfl⟩ := h.all p hp
    · have z1 := keyT_size s k x
      have z2 := frameT_size k x a
      simp only [cnt]; omega
    · have z1 := keyT_size (s + 1) k x
      have z2 := frameT_size k x b
      simp only [cnt]; omega)
  have h2 : (now (sW k s a b xs)).length ≤ 0 + (ws k s a b xs).length := len_do _ _
  rw [ws_len] at h2
  have h3 : 53 * (now (sW k s a b xs)).length ≤ 53 * 200 := Nat.mul_le_mul_left _ (by omega)
  omega
theorem sW_put {k s : Int} {a b : ByteArray} (hs : okI s) (hs1 : okI (s + 1)) (hk : 1 ≤ k ∧ k ≤ 255) (ha : a.size = 1) (hb : b.size = 1) (xs : List Int) (hok : ∀ x ∈ xs, okI x) (hl : xs.length ≤ 100) (x : Int) :
    putS (sW k s a b xs) (keyT s k x) (frameT k x a) = (0, addW (sW k s a b xs) ⟨false, keyT s k x, frameT k x a⟩) ∧
    putS (addW (sW k s a b xs) ⟨false, keyT s k x, frameT k x a⟩) (keyT (s + 1) k x) (frameT k x b) = (0, sW k s a b (xs ++ [x])) := by
  have ht := sW_tot (a := a) (b := b) hs hs1 hk ha hb xs hok hl
  have hsr := (sW_two (a := a) (b := b) hs hs1 hk xs.length xs rfl hok).srt
  have z1 := keyT_size s k x
  have z2 := frameT_size k x a
  have z3 := keyT_size (s + 1) k x
  have z4 := frameT_size k x b
  have h1 := tot_le (keyT s k x) (frameT k x a) hsr
  have h2 := tot_le (keyT (s + 1) k x) (frameT k x b) (srt_put (k := keyT s k x) (d := frameT k x a) hsr)
  simp only [cnt] at h1 h2
  constructor
  · refine put_ok rfl rfl (by omega) (by omega) ?_
    show (_ : Int) ≤ 536870912
    omega
  · rw [← sW_add]
    refine put_ok rfl rfl (by omega) (by omega) ?_
    rw [now_add]
    show ((tot (put (keyT (s + 1) k x) (frameT k x b) (put (keyT s k x) (frameT k x a) (now (sW k s a b xs)))) : Nat) : Int) ≤ 536870912
    omega
-- the state behind the Wipe
def sV (k s : Int) (a b : ByteArray) (xs : List Int) : S := { sW k s a b xs with pend := (sW k s a b xs).pend ++ (keysL (spaceT s) (now (sW k s a b xs))).map fun k => ⟨true, k, ByteArray.empty⟩ }
theorem sV_now (k s : Int) (a b : ByteArray) (xs : List Int) : now (sV k s a b xs) = (keysL (spaceT s) (now (sW k s a b xs))).foldl (fun r k => del k r) (now (sW k s a b xs)) := now_wiped _ _
theorem sW_wipe {k s : Int} {a b : ByteArray} (hs : okI s) (hs1 : okI (s + 1)) (hk : 1 ≤ k ∧ k ≤ 255) (xs : List Int) (hok : ∀ x ∈ xs, okI x) :
    wipeS (sW k s a b xs) s = (((((nums (keysL (kindT s k) (now (sW k s a b xs)))).length : Nat) : Int), 0), sV k s a b xs) := by
  have h := sW_two (a := a) (b := b) hs hs1 hk xs.length xs rfl hok
  have hL := h.left hs hs1 hk hok
  have hkeys : keysS (sW k s a b xs) (spaceT s) = keysL (spaceT s) (now (sW k s a b xs)) := by unfold keysS; rw [if_neg (by simp [sW])]
  have hw := wipe_all (keysL (spaceT s) (now (sW k s a b xs))) (sW k s a b xs) rfl rfl (fun key hkey => by
    rw [h.space hs hs1 hk] at hkey
    obtain ⟨x, hx, rfl⟩ := (half_keys hL hs hk hok key).1 hkey
    have z := keyT_size s k x
    refine ⟨by omega, by omega, ?_⟩
    rw [half_get hL hx]; rfl) (keysL_nodup h.srt) h.srt
  unfold wipeS
  rw [if_neg (by have := hs.1; omega), if_neg (by simp [sW]), hkeys, hw, if_pos rfl, half_len hL hs hk hok, ← h.space hs hs1 hk]
  rfl
theorem numbers_is {st : S} (ho : st.off = false) {t k : Int} (ht : okI t) (hk : 1 ≤ k ∧ k ≤ 255) : numbersS st t k = nums (keysL (kindT t k) (now st)) := by
  unfold numbersS
  rw [if_pos ⟨ht.1, hk.1, hk.2⟩]
  unfold keysS
  rw [if_neg (by simp [ho])]
end Go.Proofs.YtpcllegjnbeppaaGreat.tbf
