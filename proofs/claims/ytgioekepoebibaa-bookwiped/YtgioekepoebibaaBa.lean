import Derived.Test.YtgioekepoebibaaQg
import Derived.Test.YtgioekepoebibaaQh
import Derived.Test.YtgioekepoebibaaYn
import Derived.Test.YtgioekepoebibaaYk
import Derived.Test.YtgioekepoebibaaYl
import Derived.Test.YtgioekepoebibaaYj
namespace Go.Proofs.Ytgioekepoebibaa.ba
open Go.RowKit Go.PlainAid Go.Maps Go.Shelf
open Go.Proofs.Ytgioekepoebibaa.kp Go.Proofs.Ytgioekepoebibaa.ya Go.Proofs.Ytgioekepoebibaa.yb Go.Proofs.Ytgioekepoebibaa.yc Go.Proofs.Ytgioekepoebibaa.yd Go.Proofs.Ytgioekepoebibaa.ye Go.Proofs.Ytgioekepoebibaa.yf Go.Proofs.Ytgioekepoebibaa.yi Go.Proofs.Ytgioekepoebibaa.yk Go.Proofs.Ytgioekepoebibaa.yl Go.Proofs.Ytgioekepoebibaa.ym Go.Proofs.Ytgioekepoebibaa.yn
open Go.Proofs.Ytgioekepoebibaa.qa Go.Proofs.Ytgioekepoebibaa.qg Go.Proofs.Ytgioekepoebibaa.qh
open Go.Proofs.Ytgioekepoebibaa.qb (over keyC keyNo)
set_option linter.unusedVariables false
set_option linter.unusedSimpArgs false
theorem rn_pre {B g bn bd : Nat} {pv : Value} {s : S} {w w1 w2 : World} (hb : Below w.heap.size w w1) (r : Rn B g bn bd pv s w1 w2) : Rn B g bn bd pv s w w2 := by
  obtain ⟨pv', h, k, n⟩ := r
  exact ⟨pv', h, (Kp.of_below hb).trans k, fun j hj => (n j hj).imp id (fun x => Nat.le_trans hb.size x)⟩
-- Put, whatever is put
def bputS (s : S) (sp k n : Int) (p : ByteArray) : Int × S :=
  if 0 ≤ sp ∧ 1 ≤ k ∧ k ≤ 255 ∧ 0 ≤ n then (if p.size ≤ 524288 then putS s (keyT sp k n) (frameT k n p) else (121, s)) else (10, s)
theorem bputC {B g bn bd : Nat} {pv : Value} {s : S} {w : World} (sp k n : Int) (p : ByteArray) (h : Sr B g bn bd pv s w) (h1 : sp ≤ 9223372036854775807) (n1 : n ≤ 9223372036854775807) (hl : s.dur.length + s.pend.length + 1 < 3518437208883) (hB : B ≤ w.heap.size) :
    Calls Try.prog 19 #[.pointer (some ⟨g, 0, none⟩), .int .i64 sp, .int .i64 k, .int .i64 n, .string p] w fun e w' => e = .returned (.int .i64 (bputS s sp k n p).1) ∧ Rn B g bn bd pv (bputS s sp k n p).2 w w' := by
  have H : Hid (Sr B g bn bd pv s w) := h
  unfold bputS
  by_cases hk : 0 ≤ sp ∧ 1 ≤ k ∧ k ≤ 255 ∧ 0 ≤ n
  · rw [if_pos hk]
    have CK : Hid (∀ w, Calls _ _ _ _ _) := fun w => keyC sp k n w hk.1 h1 hk.2.1 hk.2.2.1 hk.2.2.2 n1
    by_cases hp : p.size ≤ 524288
    · rw [if_pos hp]
      have CF : Hid (∀ w, Calls _ _ _ _ _) := fun w => frameC k n p w hk.2.1 hk.2.2.1 hk.2.2.2 n1 hp
      have zk := keyT_size sp k n
      have zf := frameT_size k n p
      have CP : Hid (∀ w1, Below w.heap.size w w1 → Calls _ _ _ _ _) := fun w1 b1 => putC (keyT sp k n) (frameT k n p) (sr_later H.out b1) (by omega) (by omega) hl (Nat.le_trans hB b1.size)
      generalize keyT sp k n = K at *
      generalize frameT k n p = F at *
      clear h hk hp hl
      go_enter Try.func19, Try.ntmps19
      go_wp2_with fail
      refine (CK.out _).mono ?_
      rintro _ w1 ⟨rfl, b1⟩
      go_wp2_with fail
      refine (CF.out _).mono ?_
      rintro _ w2 ⟨rfl, b2⟩
      have B2 : Hid (Below w.heap.size w w2) := over b1 b2
      clear b1 b2
      go_wp2_with fail
      refine (CP.out w2 B2.out).mono ?_
      rintro _ w3 ⟨rfl, r3⟩
      have R3 : Hid (Rn _ _ _ _ _ _ _ _) := r3
      clear r3
      go_wp2
      go_ret
      exact ⟨rfl, rn_pre B2.out R3.out⟩
    · rw [if_neg hp]
      have CF : Hid (∀ w, Calls _ _ _ _ _) := fun w => frameBig k n p w hk.2.1 hk.2.2.1 hk.2.2.2 (by omega)
      generalize keyT sp k n = K at *
      clear h hk hp hl
      go_enter Try.func19, Try.ntmps19
      go_wp2_with fail
      refine (CK.out _).mono ?_
      rintro _ w1 ⟨rfl, b1⟩
      have B1 : Hid (Below w.heap.size w w1) := b1
      clear b1
      go_wp2_with fail
      refine (CF.out _).mono ?_
      rintro _ _ ⟨rfl, hw⟩; rw [hw]; clear hw
      go_wp2
      go_ret
      exact ⟨rfl, rn_pre B1.out (Rn.refl (sr_later H.out B1.out))⟩
  · rw [if_neg hk]
    have CK : Hid (∀ w, Calls _ _ _ _ _) := fun w => keyNo sp k n w hk
    clear h hk hl
    go_enter Try.func19, Try.ntmps19
    go_wp2_with fail
    refine (CK.out _).mono ?_
    rintro _ _ ⟨rfl, hw⟩; rw [hw]; clear hw
    go_wp2
    go_ret
    exact ⟨rfl, Rn.refl H.out⟩
-- Get
def bgetV (k n : Int) (x : ByteArray × Int) : ByteArray × Int := if x.2 = 0 then (if parseE x.1 = 0 ∧ parseK x.1 = k ∧ parseN x.1 = n then (parseP x.1, 0) else (ByteArray.empty, 132)) else (ByteArray.empty, x.2)
def bgetS (s : S) (sp k n : Int) : ByteArray × Int := if 0 ≤ sp ∧ 1 ≤ k ∧ k ≤ 255 ∧ 0 ≤ n then bgetV k n (getS s (keyT sp k n)) else (ByteArray.empty, 10)
theorem get_size {s : S} (h : OkS s) (k : ByteArray) : (getS s k).1.size ≤ 1048576 := by
  unfold getS
  split
  · exact Nat.zero_le _
  · show ((rget k (now s)).getD ByteArray.empty).size ≤ _
    cases hr : rget k (now s) with
    | none => exact Nat.zero_le _
    | some d => exact (h.now _ (get_mem hr)).2.2
set_option maxHeartbeats 1600000 in
theorem bgetC {B g bn bd : Nat} {pv : Value} {s : S} {w : World} (sp k n : Int) (h : Sr B g bn bd pv s w) (h1 : sp ≤ 9223372036854775807) (n1 : n ≤ 9223372036854775807) :
    Calls Try.prog 22 #[.pointer (some ⟨g, 0, none⟩), .int .i64 sp, .int .i64 k, .int .i64 n] w fun e w' => e = .returned (.tuple #[.string (bgetS s sp k n).1, .int .i64 (bgetS s sp k n).2]) ∧ Below w.heap.size w w' := by
  have H : Hid (Sr B g bn bd pv s w) := h
  unfold bgetS
  by_cases hk : 0 ≤ sp ∧ 1 ≤ k ∧ k ≤ 255 ∧ 0 ≤ n
  · rw [if_pos hk]
    have CK : Hid (∀ w, Calls _ _ _ _ _) := fun w => keyC sp k n w hk.1 h1 hk.2.1 hk.2.2.1 hk.2.2.2 n1
    have zk := keyT_size sp k n
    have CG : Hid (∀ w1, Below w.heap.size w w1 → Calls _ _ _ _ _) := fun w1 b1 => getC (keyT sp k n) (sr_later H.out b1) (by omega)
    have hz := get_size h.ok (keyT sp k n)
    generalize keyT sp k n = K at *
    generalize getS s K = x at *
    obtain ⟨d, e⟩ := x
    have hz' : d.size ≤ 1048576 := hz
    have CG' : Hid (∀ w1, Below w.heap.size w w1 → Calls Try.prog 45 #[.pointer (some ⟨g, 0, none⟩), .string K] w1 fun e' w' => e' = .returned (.tuple #[.string d, .int .i64 e]) ∧ Below w1.heap.size w1 w') := CG.out
    clear CG hz
    unfold bgetV
    by_cases he : e = 0
    · have CP : Hid (∀ w, Calls _ _ _ _ _) := fun w => parseC d w (by omega)
      rw [if_pos he]
      subst he
      have key : (∃ f : Prop, (parseE d = 0 ∧ parseK d = k ∧ parseN d = n) ∨ ((parseE d != 0) = true) ∨ (parseE d = 0 ∧ (parseK d != k) = true) ∨ (parseE d = 0 ∧ parseK d = k ∧ (parseN d != n) = true)) := ⟨True, by
        by_cases a : parseE d = 0
        · by_cases b : parseK d = k
          · by_cases c : parseN d = n
            · exact .inl ⟨a, b, c⟩
            · exact .inr (.inr (.inr ⟨a, b, by rw [bne_iff_ne]; exact c⟩))
          · exact .inr (.inr (.inl ⟨a, by rw [bne_iff_ne]; exact b⟩))
        · exact .inr (.inl (by rw [bne_iff_ne]; exact a))⟩
      obtain ⟨_, key⟩ := key
      have HV : Hid (((parseE d = 0 ∧ parseK d = k ∧ parseN d = n) → (if parseE d = 0 ∧ parseK d = k ∧ parseN d = n then (parseP d, (0 : Int)) else (ByteArray.empty, 132)) = (parseP d, 0)) ∧ (¬ (parseE d = 0 ∧ parseK d = k ∧ parseN d = n) → (if parseE d = 0 ∧ parseK d = k ∧ parseN d = n then (parseP d, (0 : Int)) else (ByteArray.empty, 132)) = (ByteArray.empty, 132))) := ⟨fun h => if_pos h, fun h => if_neg h⟩
      obtain ⟨v, HVV⟩ : ∃ v, Hid ((if parseE d = 0 ∧ parseK d = k ∧ parseN d = n then (parseP d, (0 : Int)) else (ByteArray.empty, 132)) = v) := ⟨_, rfl⟩
      show Calls _ _ _ _ fun e' w' => e' = .returned (.tuple #[.string (if parseE d = 0 ∧ parseK d = k ∧ parseN d = n then (parseP d, (0 : Int)) else (ByteArray.empty, 132)).1, .int .i64 (if parseE d = 0 ∧ parseK d = k ∧ parseN d = n then (parseP d, (0 : Int)) else (ByteArray.empty, 132)).2]) ∧ _
      rw [HVV.out] at HV ⊢
      clear HVV
      generalize parseE d = pe at *
      generalize parseK d = pk at *
      generalize parseN d = pn at *
      generalize parseP d = pp at *
      clear h hk
      rcases key with ⟨rfl, rfl, rfl⟩ | key | ⟨rfl, key⟩ | ⟨rfl, rfl, key⟩
      · have HV2 : Hid (v = (pp, 0)) := HV.out.1 ⟨rfl, rfl, rfl⟩
        clear HV
        go_enter Try.func22, Try.ntmps22
        go_wp2_with fail
        refine (CK.out _).mono ?_
        rintro _ w1 ⟨rfl, b1⟩
        go_wp2_with fail
        refine (CG'.out _ b1).mono ?_
        rintro _ w2 ⟨rfl, b2⟩
        have B2 : Hid (Below w.heap.size w w2) := over b1 b2
        clear b1 b2
        go_wp2_with fail
        refine (CP.out _).mono ?_
        rintro _ w3 ⟨rfl, b3⟩
        have B3 : Hid (Below w.heap.size w w3) := over B2.out b3
        clear b3
        go_wp2
        go_ret2
        exact ⟨by rw [HV2.out]; rfl, B3.out⟩
      all_goals
        have HV2 : Hid (v = (⟨#[]⟩, 132)) := HV.out.2 (fun h => by simp [h] at key)
        clear HV
        go_enter Try.func22, Try.ntmps22
        go_wp2_with fail
        refine (CK.out _).mono ?_
        rintro _ w1 ⟨rfl, b1⟩
        go_wp2_with fail
        refine (CG'.out _ b1).mono ?_
        rintro _ w2 ⟨rfl, b2⟩
        have B2 : Hid (Below w.heap.size w w2) := over b1 b2
        clear b1 b2
        go_wp2_with fail
        refine (CP.out _).mono ?_
        rintro _ w3 ⟨rfl, b3⟩
        have B3 : Hid (Below w.heap.size w w3) := over B2.out b3
        clear b3
        go_wp2
        go_ret2
        exact ⟨by rw [HV2.out]; rfl, B3.out⟩
    · rw [if_neg he]
      have he' : (e != 0) = true := by rw [bne_iff_ne]; exact he
      clear h hk he
      go_enter Try.func22, Try.ntmps22
      go_wp2_with fail
      refine (CK.out _).mono ?_
      rintro _ w1 ⟨rfl, b1⟩
      go_wp2_with fail
      refine (CG'.out _ b1).mono ?_
      rintro _ w2 ⟨rfl, b2⟩
      have B2 : Hid (Below w.heap.size w w2) := over b1 b2
      clear b1 b2
      go_wp2
      go_ret2
      exact ⟨rfl, B2.out⟩
  · rw [if_neg hk]
    have CK : Hid (∀ w, Calls _ _ _ _ _) := fun w => keyNo sp k n w hk
    clear h hk
    go_enter Try.func22, Try.ntmps22
    go_wp2_with fail
    refine (CK.out _).mono ?_
    rintro _ _ ⟨rfl, hw⟩; rw [hw]; clear hw
    go_wp2
    go_ret2
    exact ⟨rfl, Below.refl _ _⟩
end Go.Proofs.Ytgioekepoebibaa.ba
