import Derived.Test.YtkgadgkomdjplaaEd
import Derived.Deep.AppendLies
import Derived.RowKit3
namespace Go.Proofs.Ytkgadgkomdjplaa.ee
open Go.RowKit Go.PlainAid Go.Shelf
open Go.Proofs.Ytkgadgkomdjplaa.ca Go.Proofs.Ytkgadgkomdjplaa.cb Go.Proofs.Ytkgadgkomdjplaa.cp Go.Proofs.Ytkgadgkomdjplaa.ga Go.Proofs.Ytkgadgkomdjplaa.kp Go.Proofs.Ytkgadgkomdjplaa.na Go.Proofs.Ytkgadgkomdjplaa.nb Go.Proofs.Ytkgadgkomdjplaa.nc Go.Proofs.Ytkgadgkomdjplaa.nf Go.Proofs.Ytkgadgkomdjplaa.ng Go.Proofs.Ytkgadgkomdjplaa.ea Go.Proofs.Ytkgadgkomdjplaa.eb Go.Proofs.Ytkgadgkomdjplaa.ec Go.Proofs.Ytkgadgkomdjplaa.ed Go.Proofs.Ytkgadgkomdjplaa.ka Go.Proofs.Ytkgadgkomdjplaa.bn
set_option linter.unusedVariables false

theorem own_kp {A : Nat → Prop} {w w' : World} {B t s n : Nat} {v : Value} {xs : List Value} (h : w.ownsRow B t s v n xs) (k : Kp A w w') (hA : ∀ j, A j → j < B) : w'.ownsRow B t s v n xs := by
  refine ⟨h.1, ?_⟩
  rcases h.2 with h2 | ⟨g, cap, cur, h1, h2, h3, h4⟩
  · exact .inl h2
  · exact .inr ⟨g, cap, cur, h1, h2, (k.block g (Array.getElem?_eq_some_iff.1 h3).1 (fun a => by have := hA g a; omega)).trans h3, h4⟩
theorem kp_below {A : Nat → Prop} {w w1 w2 : World} (k : Kp A w w1) (b : Below w.heap.size w1 w2) : Kp A w w2 :=
  ⟨b.os.trans k.os, b.tape.trans k.tape, b.output.trans k.output, Nat.le_trans k.size b.size, fun j hj hn => (b.block j hj).trans (k.block j hj hn)⟩
theorem Rd.below {T g B : Nat} {b : ByteArray} {p : Nat} {e : Int} {rest : List Value} {w w' : World} (h : Rd T g b p e rest w) (k : Below B w w') (hg : g < B) : Rd T g b p e rest w' := (k.block _ hg).trans h
def lenV : Value → Nat
  | .slice _ n _ => n
  | _ => 0
theorem own_len {w : World} {B t s n : Nat} {v : Value} {xs : List Value} (h : w.ownsRow B t s v n xs) : lenV v = n := by
  rcases h.2 with ⟨rfl, rfl⟩ | ⟨g, cap, cur, rfl, _⟩
  · rfl
  · rfl
theorem hashesS_next (b : ByteArray) (w n p : Nat) : hashesS b w (n + 1) p 0 = ((takeS b w p 0).1 :: (hashesS b w n (takeS b w p 0).2.1 (takeS b w p 0).2.2).1, (hashesS b w n (takeS b w p 0).2.1 (takeS b w p 0).2.2).2) := by
  rw [hashesS, if_neg (by omega)]
-- what the reader of hashes has made so far
structure HI (T g : Nat) (b : ByteArray) (wd n p : Nat) (e : Int) (rest : List Value) (w : World) (v : Value) (xs : List ByteArray) (q : Nat) (z : Int) (wr : World) : Prop where
  rd : Rd T g b q z rest wr
  ok : Ok b q z
  kp : Kp (fun k => k = g) w wr
  own : wr.ownsRow w.heap.size 9 1 v xs.length (xs.map Value.string)
  len : xs.length ≤ n
  eq : hashesS b wd n p e = (xs ++ (hashesS b wd (n - xs.length) q z).1, (hashesS b wd (n - xs.length) q z).2)
theorem HI.step {T g : Nat} {b : ByteArray} {wd n p : Nat} {e : Int} {rest : List Value} {w wr w1 w3 : World} {v v' : Value} {xs : List ByteArray} {q : Nat}
    (h : HI T g b wd n p e rest w v xs q 0 wr) (hg : g < w.heap.size) (hlt : xs.length < n) (k1 : Kp (fun k => k = g) wr w1) (r1 : Rd T g b (takeS b wd q 0).2.1 (takeS b wd q 0).2.2 rest w1) (b3 : Below w.heap.size w1 w3)
    (o3 : w3.ownsRow w.heap.size 9 1 v' (xs.length + 1) (xs.map Value.string ++ [.string (takeS b wd q 0).1])) : HI T g b wd n p e rest w v' (xs ++ [(takeS b wd q 0).1]) (takeS b wd q 0).2.1 (takeS b wd q 0).2.2 w3 := by
  refine ⟨Rd.below r1 b3 hg, take_ok b wd q 0 h.ok, kp_below (h.kp.trans k1) b3, ?_, by rw [List.length_append]; simp; omega, ?_⟩
  · rw [List.length_append, List.map_append]; exact o3
  · rw [h.eq, List.length_append, show n - xs.length = (n - (xs.length + 1)) + 1 by omega, hashesS_next]
    simp
set_option maxHeartbeats 1600000 in
theorem hashesC (T g : Nat) (b : ByteArray) (p : Nat) (e : Int) (rest : List Value) (wd n : Nat) (w : World) (h : Rd T g b p e rest w) (hb : b.size ≤ 140737488355328) (hp : Ok b p e) (hw : wd ≤ 1000) (hn : n ≤ 1000000) :
    Calls Try.prog 80 #[.pointer (some ⟨g, 0, none⟩), .int .i64 wd, .int .i64 n] w fun x w' => (∃ v, x = .returned v ∧ w'.ownsRow w.heap.size 9 1 v (hashesS b wd n p e).1.length ((hashesS b wd n p e).1.map Value.string)) ∧ Rd T g b (hashesS b wd n p e).2.1 (hashesS b wd n p e).2.2 rest w' ∧ Kp (fun k => k = g) w w' := by
  obtain ⟨i9, hi, hz0, hz1, hz2⟩ := info_parts hi9
  have HIN : Hid (_ ∧ _ ∧ _ ∧ _) := ⟨hi, hz0, hz1, hz2⟩
  clear hi hz0 hz1 hz2
  have hg := h.lt
  have H0 : Hid (HI T g b wd n p e rest w (.slice none 0 0) [] p e w) := ⟨h, hp, Kp.refl _ _, World.ownsRow_nil _ _ _ _, by simp, by simp⟩
  obtain ⟨R, HR⟩ : ∃ R, Hid (hashesS b wd n p e = R) := ⟨_, rfl⟩
  rw [HR.out]
  clear h hp
  go_enter Try.func80, Try.ntmps80
  go_wp2
  go_loopw [7] (fun v wr => ∃ (xs : List ByteArray) (q : Nat) (z : Int), lenV v ≤ n ∧ Hid (HI T g b wd n p e rest w v xs q z wr)) (fun v _ => n - lenV v)
  case atStart => exact ⟨[], p, e, by simp [lenV], H0.out⟩
  case round =>
    clear H0
    obtain ⟨xs, q, z, hlv, HH⟩ := hrel
    obtain ⟨a, c, hv⟩ := own_formS HH.out.own
    subst hv
    obtain ⟨m, HM⟩ : ∃ m, Hid (xs.length = m) := ⟨_, rfl⟩
    rw [HM.out] at hlv ⊢
    have hm : m ≤ n := by have := HH.out.len; rw [HM.out] at this; exact this
    rw [HM.out] at HH
    have c2 := HH.out.rd.e
    by_cases hlt : m < n
    · have hlt' : (m : Int) < n := by omega
      by_cases hz : z = 0
      · subst hz
        have CT : Hid (Calls _ _ _ _ _) := takeC T g b q 0 rest wd wr HH.out.rd hb HH.out.ok (by omega)
        obtain ⟨x, HX⟩ : ∃ x, Hid ((takeS b wd q 0).1 = x) := ⟨_, rfl⟩
        rw [HX.out] at CT
        have HO : Hid (wr.ownsRow w.heap.size 9 1 (.slice a m c) m (xs.map Value.string)) := by have := HH.out.own; rw [HM.out] at this; exact this
        have hsz : w.heap.size ≤ wr.heap.size := HH.out.kp.size
        go_wp2_with (first | (go_at_call 68; refine CT.out.mono ?_; rintro _ w1 ⟨rfl, r1, k1⟩; have R1 : Hid (Rd T g b _ _ rest w1) := r1; have K1 : Hid (Kp (fun k => k = g) wr w1) := k1; have O1 : Hid (w1.ownsRow w.heap.size 9 1 (.slice a m c) m (xs.map Value.string)) := own_kp HO.out k1 (fun j hj => by omega); have hsz1 : w.heap.size ≤ w1.heap.size := Nat.le_trans hsz k1.size; clear r1 k1) | (at_builtin; refine wpList_append_own _ rfl _ _ 27 rfl w.heap.size 9 i9 (.string ByteArray.empty) 1 16 Try.underlying27 HIN.out.1 HIN.out.2.1 HIN.out.2.2.1 HIN.out.2.2.2 rfl (by decide) _ m _ rfl (O1.out.alloc _) ⟨w1.heap.size, 0, none⟩ 1 1 [.string x] rfl rfl (new_text _ _ _) (one_text _) (by unfold maxLen; omega) (by omega) (by simp; omega) ?_; intro v' w3 hown' hgrow3 hnil3; have O3 : Hid (w3.ownsRow w.heap.size 9 1 v' (m + 1) (xs.map Value.string ++ [.string x])) := hown'; have B3 : Hid (Below w.heap.size w1 w3) := Below.grown ((Below.refl _ _).alloc hsz1 _) hgrow3 (by simp; omega) (fun j hj => (O1.out.lt _ hj).1); clear hown' hgrow3 hnil3))
        go_roundw
        case rel =>
          refine ⟨xs ++ [x], (takeS b wd q 0).2.1, (takeS b wd q 0).2.2, by rw [own_len O3.out]; omega, ?_⟩
          have := HH.out.step hg (by rw [HM.out]; exact hlt) K1.out R1.out B3.out (by rw [HM.out, HX.out]; exact O3.out)
          rw [HX.out] at this
          exact this
        case measure => rw [own_len O3.out]; simp [lenV]; omega
      · have hz' : (z == 0) = false := by rw [beq_eq_false_iff_ne]; exact hz
        have HE : Hid (R = (xs, q, z)) := by show _ = _; rw [← HR.out, HH.out.eq, hashesS_not b wd _ q z hz]; simp
        have HO : Hid (wr.ownsRow w.heap.size 9 1 (.slice a m c) xs.length (xs.map Value.string) ∧ Rd T g b q z rest wr ∧ Kp (fun k => k = g) w wr) := ⟨HH.out.own, HH.out.rd, HH.out.kp⟩
        clear hz
        go_wp2
        go_ret
        rw [HE.out]
        exact ⟨⟨_, rfl, HO.out.1⟩, HO.out.2⟩
    · have hlt' : ¬ (m : Int) < n := by omega
      have HE : Hid (R = (xs, q, z)) := by
        show _ = _
        rw [← HR.out, HH.out.eq, HM.out, show n - m = 0 by omega]
        simp [hashesS]
      have HO : Hid (wr.ownsRow w.heap.size 9 1 (.slice a m c) xs.length (xs.map Value.string) ∧ Rd T g b q z rest wr ∧ Kp (fun k => k = g) w wr) := ⟨HH.out.own, HH.out.rd, HH.out.kp⟩
      go_wp2
      go_ret
      rw [HE.out]
      exact ⟨⟨_, rfl, HO.out.1⟩, HO.out.2⟩
end Go.Proofs.Ytkgadgkomdjplaa.ee
