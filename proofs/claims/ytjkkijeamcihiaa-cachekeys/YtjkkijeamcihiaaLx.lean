import Derived.Test.YtjkkijeamcihiaaLw
import Derived.Test.YtjkkijeamcihiaaLe
namespace Go.Proofs.Ytjkkijeamcihiaa.lx
open Go.RowKit Go.PlainAid Go.Maps
open Go.Proofs.Ytjkkijeamcihiaa.cp Go.Proofs.Ytjkkijeamcihiaa.kp Go.Proofs.Ytjkkijeamcihiaa.ka Go.Proofs.Ytjkkijeamcihiaa.bn Go.Proofs.Ytjkkijeamcihiaa.ra Go.Proofs.Ytjkkijeamcihiaa.rb Go.Proofs.Ytjkkijeamcihiaa.rc Go.Proofs.Ytjkkijeamcihiaa.rd Go.Proofs.Ytjkkijeamcihiaa.re Go.Proofs.Ytjkkijeamcihiaa.rf Go.Proofs.Ytjkkijeamcihiaa.rg Go.Proofs.Ytjkkijeamcihiaa.rh Go.Proofs.Ytjkkijeamcihiaa.ri Go.Proofs.Ytjkkijeamcihiaa.rj Go.Proofs.Ytjkkijeamcihiaa.rk Go.Proofs.Ytjkkijeamcihiaa.sa Go.Proofs.Ytjkkijeamcihiaa.lz Go.Proofs.Ytjkkijeamcihiaa.la Go.Proofs.Ytjkkijeamcihiaa.lb Go.Proofs.Ytjkkijeamcihiaa.lc Go.Proofs.Ytjkkijeamcihiaa.ld Go.Proofs.Ytjkkijeamcihiaa.le Go.Proofs.Ytjkkijeamcihiaa.lh Go.Proofs.Ytjkkijeamcihiaa.lk Go.Proofs.Ytjkkijeamcihiaa.lw
open Go.Proofs.Ytjkkijeamcihiaa.db (wpList_append_texts own_none)
open Go.Proofs.Ytjkkijeamcihiaa.rl (below_grownBy)
set_option linter.unusedVariables false
set_option linter.unusedSimpArgs false
def ReadsN (w : World) (v : Value) (xs : List Int) : Prop := ∃ a c, v = .slice a xs.length c ∧ (xs.length = 0 ∨ ∃ b off, a = some ⟨b, off, none⟩ ∧ ∀ i, i < xs.length → w.cell? ⟨b, off + i, none⟩ = some (.int .i64 (xs.getD i 0)))
def mk : ByteArray := ⟨#[109, 97, 114, 107]⟩
structure Kk (s : St) (n i : Nat) : Prop where
  most : s.most = n
  two : 2 ≤ s.l.length
  hits : s.hits = 0
  misses : s.misses = 0
  gone : s.gone ≤ i
theorem put_len {s : St} (h : Ok s) (h0 : 0 < s.most) (k : K) (v : V) : s.l.length ≤ (putS s k v).l.length ∧ (putS s k v).hits = s.hits ∧ (putS s k v).misses = s.misses ∧ (putS s k v).gone ≤ s.gone + 1 ∧ (putS s k v).most = s.most := by
  have hl := h.len
  unfold putS
  cases hf : fnd k s.l with
  | some x =>
    have := rm_lt h.nd hf
    exact ⟨by show _ ≤ (rm k s.l).length + 1; omega, rfl, rfl, Nat.le_succ _, rfl⟩
  | none =>
    dsimp only
    rw [if_neg (by omega)]
    split
    · exact ⟨Nat.le_succ _, rfl, rfl, Nat.le_succ _, rfl⟩
    · exact ⟨by show _ ≤ (s.l.dropLast).length + 1; rw [List.length_dropLast]; omega, rfl, rfl, Nat.le_refl _, rfl⟩
theorem Kk.put {s : St} {n i : Nat} (h : Kk s n i) (ok : Ok s) (k : K) (v : V) : Kk (putS s k v) n (i + 1) := by
  have h2 := h.two
  have hl := ok.len
  obtain ⟨a, b, c, d, e⟩ := put_len ok (by omega) k v
  exact ⟨by rw [e]; exact h.most, by omega, by rw [b]; exact h.hits, by rw [c]; exact h.misses, by have := h.gone; omega⟩
theorem two_of {n : Nat} (hn : 2 ≤ n) : Kk (putS (putS (S0 n) ⟨#[111, 110, 101]⟩ ⟨#[49]⟩) ⟨#[116, 119, 111]⟩ ⟨#[50]⟩) n 0 := by
  have e1 : putS (S0 n) ⟨#[111, 110, 101]⟩ ⟨#[49]⟩ = { S0 n with l := [(⟨#[111, 110, 101]⟩, ⟨#[49]⟩)] } := by
    unfold putS
    rw [show fnd (⟨#[111, 110, 101]⟩ : K) (S0 n).l = none from rfl]
    dsimp only
    rw [if_neg (show ¬ (S0 n).most = 0 by show ¬ n = 0; omega), if_pos (show (S0 n).l.length < (S0 n).most by show 0 < n; omega)]
    rfl
  have e2 : putS ({ S0 n with l := [(⟨#[111, 110, 101]⟩, ⟨#[49]⟩)] } : St) ⟨#[116, 119, 111]⟩ ⟨#[50]⟩ = { S0 n with l := [(⟨#[116, 119, 111]⟩, ⟨#[50]⟩), (⟨#[111, 110, 101]⟩, ⟨#[49]⟩)] } := by
    unfold putS
    rw [show fnd (⟨#[116, 119, 111]⟩ : K) ([(⟨#[111, 110, 101]⟩, ⟨#[49]⟩)] : List (K × V)) = none by decide +kernel]
    dsimp only
    rw [if_neg (show ¬ (S0 n).most = 0 by show ¬ n = 0; omega), if_pos (show [((⟨#[111, 110, 101]⟩ : K), (⟨#[49]⟩ : V))].length < (S0 n).most by show 1 < n; omega)]
  rw [e1, e2]
  exact ⟨rfl, Nat.le_refl _, rfl, rfl, Nat.le_refl _⟩
theorem rot {α β γ δ : Type} {C : Thg α} {A : Thg β} {R : Thg γ} {S : Thg δ} {B : Nat} {c : α} {a : β} {r : γ} {z : δ} {w0 w : World} (h : One (pairO (pairO (pairO C A) R) S) B (((c, a), r), z) w0 w) : One (pairO (pairO (pairO C R) S) A) B (((c, r), z), a) w0 w := by
  obtain ⟨F, ⟨F1, F2, ⟨F3, F4, ⟨F5, F6, h1, h2, h3, h4⟩, h5, h6, h7⟩, h8, h9, h10⟩, h11, h12, h13⟩ := h
  have n54 : ∀ k, F5 k → ¬ F4 k := fun k hk => h6 k ((h4 k).2 (.inl hk))
  have n64 : ∀ k, F6 k → ¬ F4 k := fun k hk => h6 k ((h4 k).2 (.inr hk))
  have n52 : ∀ k, F5 k → ¬ F2 k := fun k hk => h9 k ((h7 k).2 (.inl ((h4 k).2 (.inl hk))))
  have n62 : ∀ k, F6 k → ¬ F2 k := fun k hk => h9 k ((h7 k).2 (.inl ((h4 k).2 (.inr hk))))
  have n42 : ∀ k, F4 k → ¬ F2 k := fun k hk => h9 k ((h7 k).2 (.inr hk))
  refine ⟨fun k => ((F5 k ∨ F4 k) ∨ F2 k) ∨ F6 k, ⟨fun k => (F5 k ∨ F4 k) ∨ F2 k, F6, ⟨fun k => F5 k ∨ F4 k, F2, ⟨F5, F4, h1, h5, n54, fun k => Iff.rfl⟩, h8, ?_, fun k => Iff.rfl⟩, h2, ?_, fun k => Iff.rfl⟩, ?_, h12, h13⟩
  · rintro k (hk | hk)
    · exact n52 k hk
    · exact n42 k hk
  · rintro k ((hk | hk) | hk) hq
    · exact h3 k hk hq
    · exact n64 k hq hk
    · exact n62 k hq hk
  · rintro k (((hk | hk) | hk) | hk)
    · exact h11 k ((h10 k).2 (.inl ((h7 k).2 (.inl ((h4 k).2 (.inl hk))))))
    · exact h11 k ((h10 k).2 (.inl ((h7 k).2 (.inr hk))))
    · exact h11 k ((h10 k).2 (.inr hk))
    · exact h11 k ((h10 k).2 (.inl ((h7 k).2 (.inl ((h4 k).2 (.inr hk))))))
def mks (ks : List ByteArray) (j : Nat) : List ByteArray := List.replicate j mk ++ ks.drop j
theorem mks_len {ks : List ByteArray} {j : Nat} (h : j ≤ ks.length) : (mks ks j).length = ks.length := by unfold mks; rw [List.length_append, List.length_replicate, List.length_drop]; omega
theorem mks_set {ks : List ByteArray} {j : Nat} (h : j < ks.length) : (mks ks j).set j mk = mks ks (j + 1) := by
  unfold mks
  rw [List.set_append_right _ _ (by rw [List.length_replicate]; omega), List.length_replicate, Nat.sub_self, List.replicate_succ', List.append_assoc]
  congr 1
  rw [List.drop_eq_getElem_cons h]
  rfl
abbrev Ob (ga ma B : Nat) := pairO (pairO (pairO (ChO ga ma) (RowO rdT)) (RowO rdT)) (OwO B)
set_option maxRecDepth 8000 in
set_option maxHeartbeats 12800000 in
theorem keysL (most : Int) (hs0 : -9223372036854775808 ≤ most) (hs1 : most ≤ 9223372036854775807) (v : Value) (ns : List Int) (drop : Int) (hd0 : -9223372036854775808 ≤ drop) (hd1 : drop ≤ 9223372036854775807) (w : World) (hr : ReadsN w v ns) (hz : ns.length * 8 ≤ 140737488351232) :
    Calls Try.prog 5 #[.int .i64 most, v, .int .i64 drop] w fun e w' => e = .returned (.bool true) ∧ Below w.heap.size w w' := by
  obtain ⟨n0, hn, hn1⟩ := pick_nat most
  obtain ⟨n, HNN⟩ : ∃ n : Nat, Hid (2 + n0 = n) := ⟨_, rfl⟩
  have hn2 : 2 ≤ n := by have := HNN.out; omega
  have hn3 : n ≤ 13 := by have := HNN.out; omega
  have hsum : (2 : Int) + (n0 : Int) = (n : Int) := by have := HNN.out; omega
  have CP1 : Hid (∀ w, Calls Try.prog 13 #[.int .i64 most, .int .i64 12] w fun e w' => e = .returned (.int .i64 (n0 : Nat)) ∧ w' = w) := fun w => by rw [← hn]; exact pickC most 12 hs0 hs1 (by omega) (by omega) w
  have CPD : Hid (∀ (q : Nat) w, 0 < q → q ≤ 13 → ∃ r : Nat, r < q ∧ Calls Try.prog 13 #[.int .i64 drop, .int .i64 (q : Nat)] w fun e w' => e = .returned (.int .i64 (r : Nat)) ∧ w' = w) := fun q w h0 h1 => by
    have hp := pick_in drop (n := (q : Int)) (by omega)
    refine ⟨(pickS drop q).toNat, by omega, ?_⟩
    have := pickC drop q hd0 hd1 (by omega) (by omega) w
    rw [show ((pickS drop q).toNat : Int) = pickS drop q by omega]
    exact this
  have CN1 : Hid (∀ w, Calls _ _ _ _ _) := fun w => cNew n (by omega) w
  obtain ⟨va, vc, hv⟩ : ∃ a c, v = .slice a ns.length c := ⟨_, _, hr.choose_spec.choose_spec.1⟩
  have HRN : Hid (∀ w', Below w.heap.size w w' → ∀ i, (hi : i < ns.length) → ∃ b off, va = some ⟨b, off, none⟩ ∧ w'.cell? ⟨b, off + i, none⟩ = some (.int .i64 ns[i])) := fun w' hb i hi => by
    obtain ⟨a', c', e', h0 | ⟨b, off, e2, hc⟩⟩ := hr
    · omega
    · have e3 : va = a' := by have := hv.symm.trans e'; exact (Value.slice.inj this).1
      refine ⟨b, off, by rw [e3]; exact e2, ?_⟩
      have q := hc i hi
      rw [List.getD_eq_getElem?_getD, List.getElem?_eq_getElem hi] at q
      exact (hb.cell (p := ⟨b, off + i, none⟩) (World.block_lt_of_cell? _ _ q)).trans q
  obtain ⟨N, HN⟩ : ∃ N, Hid (ns.length = N) := ⟨_, rfl⟩
  rw [HN.out] at hv hz
  have hNb : (N : Int) ≤ 140737488351232 := by omega
  have HN2 : Hid (2 ≤ n ∧ n ≤ 13) := ⟨hn2, hn3⟩
  have hn4 : (n : Int) ≤ 13 := by omega
  subst hv
  clear hr hz hn hs0 hs1 hd0 hd1 hn1 hn2 hn3
  unfold pt at *
  go_enter Try.func5, Try.ntmps5
  go_upto_region 5 with (first | (go_at_call 13; refine (CP1.out _).mono ?_; rintro _ wz ⟨rfl, hwz⟩; rw [hwz]; clear hwz) | (go_at_call 9; refine (CN1.out _).mono ?_; rintro _ w2 ⟨rfl, hb1, hp1, hf1⟩; have O2 : Hid (One _ w.heap.size _ w w2) := One.born (Nat.le_refl _) hp1 hb1 hf1; clear hb1 hp1 hf1) | go_in)
  obtain ⟨ga, HGA⟩ : ∃ g, Hid (w.heap.size + 1 = g) := ⟨_, rfl⟩
  obtain ⟨B, HB⟩ : ∃ g, Hid (w.heap.size = g) := ⟨_, rfl⟩
  have O2 : Hid (One (ChO ga B) B (S0 n) w w2) := by have := O2.out; rw [HGA.out, HB.out] at this; exact this
  rw [HGA.out]
  have PU : Hid (∀ (s : St) k x w', okK k → s.gone < 4611686018427387904 → One (ChO ga B) B s w w' → Calls Try.prog 16 #[.pointer (some ⟨ga, 0, none⟩), .string k, .string x] w' fun e w2 => e = .returned (.tuple #[.string ((outS s k).getD emp), .bool (outS s k).isSome]) ∧ One (ChO ga B) B (putS s k x) w w2) := fun s k x w' hk hg h => One.step h (fun F hp => cPut k x hp hk hg)
  have C5 : Hid (Calls _ _ _ _ _) := PU.out _ ⟨#[111, 110, 101]⟩ ⟨#[49]⟩ w2 (by show _ ≤ _; unfold maxLen; decide) (by show 0 < 4611686018427387904; omega) O2.out
  have hg1 : (putS (S0 n) ⟨#[111, 110, 101]⟩ ⟨#[49]⟩).gone < 4611686018427387904 := by
    have := (put_len (s := S0 n) ⟨List.nodup_nil, Nat.zero_le _, by show n ≤ 4096; have := HN2.out; omega⟩ (by show 0 < n; have := HN2.out; omega) ⟨#[111, 110, 101]⟩ ⟨#[49]⟩).2.2.2.1
    have e : (S0 n).gone = 0 := rfl
    omega
  have C6 : Hid (∀ w', One (ChO ga B) B (putS (S0 n) ⟨#[111, 110, 101]⟩ ⟨#[49]⟩) w w' → Calls _ _ _ _ _) := fun w' h => PU.out _ ⟨#[116, 119, 111]⟩ ⟨#[50]⟩ w' (by show _ ≤ _; unfold maxLen; decide) hg1 h
  clear hg1
  go_upto_region 6 with (first | (go_at_call 16; refine C5.out.mono ?_; rintro _ w3 ⟨rfl, h3⟩; have O3 : Hid (One _ _ _ _ _) := h3; clear h3) | go_in)
  go_upto_region 7 with (first | (go_at_call 16; refine (C6.out _ O3.out).mono ?_; rintro _ w4 ⟨rfl, h4⟩; have O4 : Hid (One _ _ _ _ _) := h4; clear h4) | go_in)
  have K4 : Hid (Kk (putS (putS (S0 n) ⟨#[111, 110, 101]⟩ ⟨#[49]⟩) ⟨#[116, 119, 111]⟩ ⟨#[50]⟩) n 0) := two_of HN2.out.1
  obtain ⟨s4, HS4⟩ : ∃ s, Hid (putS (putS (S0 n) ⟨#[111, 110, 101]⟩ ⟨#[49]⟩) ⟨#[116, 119, 111]⟩ ⟨#[50]⟩ = s) := ⟨_, rfl⟩
  rw [HS4.out] at O4 K4
  clear C5 C6 O2 O3 CP1 CN1 hsum HS4
  go_wp2
  go_loopw [9] (fun iv wr => ∃ (i : Nat) (s : St), i ≤ N ∧ i ≤ 300 ∧ iv = .int .i64 i ∧ Hid (One (ChO ga B) B s w wr) ∧ Hid (Kk s n i)) (fun iv _ => (300 - intOf iv).toNat)
  case atStart => exact ⟨0, s4, Nat.zero_le _, by omega, rfl, O4, K4.out⟩
  case round =>
    obtain ⟨i, s, hiN, hi3, rfl, HO, HK⟩ := hrel
    by_cases hlt : i < N ∧ i < 300
    · obtain ⟨hl1, hl2⟩ := hlt
      have hl1' : (i : Int) < N := by omega
      have hl2' : (i : Int) < 300 := by omega
      have hbl : Below w.heap.size w wr := by rw [HB.out]; exact One.below HO.out
      obtain ⟨b, off, hva, d0⟩ := HRN.out wr hbl i (by rw [HN.out]; exact hl1)
      obtain ⟨x, hx⟩ : ∃ x, ns[i]'(by rw [HN.out]; exact hl1) = x := ⟨_, rfl⟩
      rw [hx] at d0
      have CDg : Hid (∀ w, Calls Try.prog 14 #[.int .i64 x] w fun e w' => e = .returned (.string (digS x)) ∧ w' = w) := fun w => digitsC x w
      have hok : Ok s := cOk (One.get HO.out).choose_spec
      have CPU : Hid (Calls _ _ _ _ _) := PU.out s (digS x) ⟨#[118]⟩ wr (digS_ok x) (by have := HK.out.gone; omega) HO.out
      have HK2 : Hid (Kk (putS s (digS x) ⟨#[118]⟩) n (i + 1)) := HK.out.put hok _ _
      subst hva
      clear hx hbl hok
      go_wp2_with (first | (go_at_call 14; refine (CDg.out _).mono ?_; rintro _ wd ⟨rfl, hwd⟩; rw [hwd]; clear hwd) | (go_at_call 16; refine CPU.out.mono ?_; rintro _ w5 ⟨rfl, h5⟩; have O5 : Hid (One _ _ _ _ _) := h5; clear h5) | go_in)
      go_roundw
      case rel => exact ⟨i + 1, _, by omega, by omega, by go_num, O5, HK2.out⟩
      case measure => simp [intOf]; omega
    · have hlt' : Hid (¬ (i < N ∧ i < 300)) := hlt
      have hnext : (decide ((i : Int) < N) && decide ((i : Int) < 300)) = false := by simp; omega
      clear hlt
      obtain ⟨L, HL⟩ : ∃ L, Hid (s.l.length = L) := ⟨_, rfl⟩
      have hok : Ok s := cOk (One.get HO.out).choose_spec
      have hL2 : 2 ≤ L := by rw [← HL.out]; exact HK.out.two
      have hLn : L ≤ n := by have := hok.len; rw [HK.out.most, HL.out] at this; exact this
      have hL13 : (L : Int) ≤ 13 := by have := HN2.out; omega
      obtain ⟨ks, HKS⟩ : ∃ ks, Hid (keys s.l = ks) := ⟨_, rfl⟩
      have hkl : ks.length = L := by rw [← HKS.out, ← HL.out]; unfold keys; rw [List.length_map]
      have HKL : Hid (ks.length = L) := hkl
      have KY : Hid (∀ {σ : Type} {U : Thg σ} {t : σ} (w' : World), True → True) := fun _ h => h
      have CKa : Hid (∀ w', One (ChO ga B) B s w w' → Calls Try.prog 21 #[.pointer (some ⟨ga, 0, none⟩)] w' fun e w2 => ∃ a c, e = .returned (.slice a L c) ∧ w2.ownsRow w'.heap.size 9 1 (.slice a L c) L (ks.map Value.string) ∧ Below w'.heap.size w' w2) := fun w' h => (cKeys (One.get h).choose_spec).mono fun e w2 ⟨x, g1, g2, g3⟩ => by
        rw [HKS.out, hkl] at g2
        obtain ⟨a, c, e1⟩ := own_formS g2
        subst e1
        exact ⟨a, c, g1, g2, g3⟩
      have SM : Hid (∀ {σ : Type} {U : Thg σ} {t : σ} (x y : Value) (zs : List ByteArray) (w' : World), One U B t w w' → zs.length ≤ 13 → ReadsT w' x zs → ReadsT w' y zs → Calls Try.prog 20 #[x, y] w' fun e w2 => e = .returned (.bool true) ∧ One U B t w w2 ∧ Below w'.heap.size w' w2) := fun x y zs w' h hzs hx hy => by
        refine (same x y zs zs w' hx hy (by omega)).mono fun e w2 ⟨g1, m, g2⟩ => ?_
        have hb : Below w'.heap.size w' w2 := by rw [g2]; exact ⟨rfl, rfl, rfl, Nat.le_refl _, fun _ _ => rfl⟩
        exact ⟨by rw [g1, decide_eq_true rfl], One.later h hb, hb⟩
      have HKA : Hid (Ok s ∧ Kk s n i) := ⟨hok, HK.out⟩
      have hk13 : Hid (ks.length ≤ 13) := by show ks.length ≤ 13; rw [hkl]; have := HN2.out; omega
      obtain ⟨i9, hi', hz0, hz1, hz2⟩ := info_parts hi9
      have HIN : Hid (_ ∧ _ ∧ _ ∧ _) := ⟨hi', hz0, hz1, hz2⟩
      have HLN : Hid (L ≤ 13 ∧ 2 ≤ L ∧ L ≤ n) := ⟨by have := HN2.out; omega, hL2, hLn⟩
      clear hok HK K4 O4 PU HRN KY hkl hi' hz0 hz1 hz2
      by_cases h1 : i < N
      · have h1' : (i : Int) < N := by omega
        have h2' : ¬ (i : Int) < 300 := by have := hlt'.out; omega
        clear hnext
        go_upto_region 12 with (first | (go_at_call 21; refine (CKa.out _ HO.out).mono ?_; rintro _ w5 ⟨aa, ac, rfl, hoa, hba⟩; have HOA : Hid (World.ownsRow _ _ _ _ _ _ _) := hoa; have HBA : Hid (Below _ _ _) := hba; clear hoa hba) | go_in)
        have HOA2 : Hid (w5.ownsRow wr.heap.size 9 1 (.slice aa L ac) ks.length (ks.map Value.string)) := by rw [HKL.out]; exact HOA.out
        have O5 : Hid (One (pairO (ChO ga B) (OwO B)) B (s, (.slice aa L ac, ks)) w w5) := One.put HO.out (ow_new HOA2.out (One.hb HO.out)).1 HBA.out (ow_new (B := B) HOA2.out (One.hb HO.out)).2
        go_upto_region 13 with (first | (go_at_call 21; refine (CKa.out _ (One.fst O5.out)).mono ?_; rintro _ w6 ⟨ba, bc, rfl, hoa, hba⟩; have HOB : Hid (World.ownsRow _ _ _ _ _ _ _) := hoa; have HBB : Hid (Below _ _ _) := hba; clear hoa hba) | go_in)
        have HOB2 : Hid (w6.ownsRow w5.heap.size 9 1 (.slice ba L bc) ks.length (ks.map Value.string)) := by rw [HKL.out]; exact HOB.out
        have O6 : Hid (One (pairO (pairO (ChO ga B) (OwO B)) (RowO rdT)) B ((s, (.slice aa L ac, ks)), (.slice ba L bc, ks)) w w6) := One.put O5.out (row_new (r := rdT) (own_readsT HOB2.out) HOB2.out.lt).1 HBB.out (row_new (r := rdT) (own_readsT HOB2.out) HOB2.out.lt).2
        have RA6 : Hid (ReadsT w6 (.slice aa L ac) ks) := own_readsT (ow_get (One.fst O6.out))
        have NA6 : Hid ((Value.slice aa L ac).ownBlock = none → Value.slice aa L ac = .slice none 0 0) := fun e => own_none (ow_get (One.fst O6.out)) e
        have HB6 : Hid (Below w6.heap.size w6 w6) := Below.refl _ _
        go_upto_region 14 with (first | (at_builtin; refine wpList_append_texts _ rfl _ _ rfl w6.heap.size _ [] rfl (World.ownsRow_nil _ _ _ _) _ ks rfl RA6.out NA6.out (by have := hk13.out; unfold maxLen; simp only [List.length_nil]; omega) (by have := hk13.out; simp only [List.length_nil]; omega) (Nat.le_refl _) ?_; intro wv w7 ho hg hob; have HOW0 : Hid (World.ownsRow _ _ _ _ _ _ _) := ho; have HGW : Hid (World.grownBy _ _ _) := hg; clear ho hg hob) | go_in)
        have HOW : Hid (w7.ownsRow w6.heap.size 9 1 wv L (ks.map Value.string)) := by have := HOW0.out; rw [List.nil_append, HKL.out] at this; exact this
        have HOW2 : Hid (w7.ownsRow w6.heap.size 9 1 wv ks.length (ks.map Value.string)) := by rw [HKL.out]; exact HOW.out
        have O7 : Hid (One (pairO (pairO (pairO (ChO ga B) (OwO B)) (RowO rdT)) (RowO rdT)) B (((s, (.slice aa L ac, ks)), (.slice ba L bc, ks)), (wv, ks)) w w7) := One.put O6.out (row_new (r := rdT) (own_readsT HOW2.out) HOW2.out.lt).1 (below_grownBy HB6.out HGW.out (Nat.le_refl _) (fun j hj => (by cases hj))) (row_new (r := rdT) (own_readsT HOW2.out) HOW2.out.lt).2
        obtain ⟨wa, wc, hwv⟩ := own_formS HOW.out
        subst hwv
        have O7r : Hid (One (Ob ga B B) B (((s, (.slice ba L bc, ks)), (.slice wa L wc, ks)), (.slice aa L ac, ks)) w w7) := rot O7.out
        have C14 : Hid (Calls _ _ _ _ _) := SM.out (.slice aa L ac) (.slice ba L bc) ks w7 O7r.out hk13.out (own_readsT (ow_get O7r.out)) (one_reads (One.fst (One.fst O7r.out)))
        have hLt2 : ¬ (L : Int) < 2 := by omega
        have hLtn : ¬ (n : Int) < (L : Int) := by omega
        have hLtn2 : ¬ n < L := by omega
        have hLt3 : ¬ L < 2 := by omega
        clear O5 O6 O7 HOW RA6 NA6 HB6 HO HOA HOA2 HBA HOB HOB2 HBB HOW0 HOW2 HGW
        go_upto_region 16 with (first | (go_at_call 20; refine C14.out.mono ?_; rintro _ w8 ⟨rfl, h8, _⟩; have O8 : Hid (One _ _ _ _ _) := h8; clear h8) | go_in)
        obtain ⟨ab, hab⟩ : ∃ ab, aa = some ⟨ab, 0, none⟩ := by
          have h0 := ow_get O8.out
          rcases h0.2 with ⟨e, _⟩ | ⟨g', cap, cur', e, _⟩
          · have := (Value.slice.inj e).2.1; omega
          · exact ⟨g', (Value.slice.inj e).1⟩
        subst hab
        clear C14
        have O8m : Hid (One (Ob ga B B) B (((s, (.slice ba L bc, ks)), (.slice wa L wc, ks)), (.slice (some ⟨ab, 0, none⟩) L ac, mks ks 0)) w w8) := O8.out
        go_wp2
        go_loopw [13] (fun jv wr => ∃ j : Nat, j ≤ L ∧ jv = .int .i64 j ∧ Hid (One (Ob ga B B) B (((s, (.slice ba L bc, ks)), (.slice wa L wc, ks)), (.slice (some ⟨ab, 0, none⟩) L ac, mks ks j)) w wr)) (fun jv _ => (L - intOf jv).toNat)
        case atStart => exact ⟨0, Nat.zero_le _, rfl, O8m⟩
        case round =>
          obtain ⟨j, hj, rfl, HJ⟩ := hrel
          by_cases hjL : j < L
          · have hjL' : (j : Int) < L := by omega
            have hjk : j < ks.length := by rw [HKL.out]; exact hjL
            have ow := ow_get HJ.out
            have e9 : (mks ks j).length = L := by rw [mks_len (by omega), HKL.out]
            have ow : wr.ownsRow B 9 1 (.slice (some ⟨ab, 0, none⟩) L ac) L ((mks ks j).map Value.string) := by have := ow; rw [e9] at this; exact this
            have hm : j < (mks ks j).length := by rw [e9]; exact hjL
            have d0 : wr.cell? ⟨ab, j, none⟩ = some (.string (mks ks j)[j]) := by rw [ow.cellAt j (by omega), List.getElem?_map, List.getElem?_eq_getElem hm]; rfl
            have f0 : wr.frozen? ⟨ab, j, none⟩ = false := ow.frozenAt j
            have HJ2 : Hid (One (Ob ga B B) B (((s, (.slice ba L bc, ks)), (.slice wa L wc, ks)), (.slice (some ⟨ab, 0, none⟩) L ac, mks ks (j + 1))) w (wr.setCell ⟨ab, j, none⟩ (.string ⟨#[109, 97, 114, 107]⟩))) := by have := ow_set HJ.out j mk hm; rw [mks_set hjk] at this; exact this
            obtain ⟨y, hy⟩ : ∃ y, (mks ks j)[j] = y := ⟨_, rfl⟩
            rw [hy] at d0
            clear ow e9 hm hy
            go_wp2
            go_roundw
            case rel => exact ⟨j + 1, by omega, by go_num, HJ2⟩
            case measure => simp [intOf]; omega
          · have hjL' : ¬ (j : Int) < L := by omega
            have HJ9 : Hid (One (Ob ga B B) B (((s, (.slice ba L bc, ks)), (.slice wa L wc, ks)), (.slice (some ⟨ab, 0, none⟩) L ac, mks ks L)) w wr) := by rw [show mks ks L = mks ks j by rw [(by omega : j = L)]]; exact HJ
            obtain ⟨W, HW⟩ : ∃ W, Hid (wr.alloc (.cells #[.string ⟨#[109, 97, 114, 107]⟩] 9) = W) := ⟨_, rfl⟩
            have OW9 : Hid (One (Ob ga B B) B (((s, (.slice ba L bc, ks)), (.slice wa L wc, ks)), (.slice (some ⟨ab, 0, none⟩) L ac, mks ks L)) w W) := One.later HJ9.out (by rw [← HW.out]; exact (Below.refl _ _).alloc (Nat.le_refl _) _)
            have OA9 : Hid (W.ownsRow B 9 1 (.slice (some ⟨ab, 0, none⟩) L ac) L ((mks ks L).map Value.string) ∧ B ≤ W.heap.size) := ⟨by have := ow_get OW9.out; rw [show (mks ks L).length = L by rw [mks_len (by rw [HKL.out]; exact Nat.le_refl _), HKL.out]] at this; exact this, One.hb OW9.out⟩
            have NT9 : Hid (∀ (q : Nat) (x : Value), [Value.string ⟨#[109, 97, 114, 107]⟩][q]? = some x → W.cell? (Addr.add ⟨wr.heap.size, 0, none⟩ q) = some x) := by rw [← HW.out]; exact new_text _ _ _
            clear HJ
            go_upto_region 21 with (first | (at_builtin; rw [HW.out]; (refine wpList_append_own_at _ rfl _ _ 30 rfl B 9 i9 (.string ByteArray.empty) 1 16 Try.underlying30 HIN.out.1 HIN.out.2.1 HIN.out.2.2.1 HIN.out.2.2.2 rfl (by decide) _ L _ rfl OA9.out.1 ⟨wr.heap.size, 0, none⟩ 1 1 [.string ⟨#[109, 97, 114, 107]⟩] rfl rfl NT9.out (one_text _) (by have := HLN.out; unfold maxLen; omega) (by have := HLN.out; omega) OA9.out.2 ?_; intro mv w9 ho hg hnn hob; have O9 : Hid (∃ xs : List ByteArray, xs.length = L + 1 ∧ One (Ob ga B B) B (((s, (.slice ba L bc, ks)), (.slice wa L wc, ks)), (mv, xs)) w w9) := ⟨mks ks L ++ [mk], by rw [List.length_append, mks_len (by rw [HKL.out]; exact Nat.le_refl _), HKL.out]; rfl, ow_grown OW9.out (by have := ho; rw [List.length_append, mks_len (by rw [HKL.out]; exact Nat.le_refl _), HKL.out, List.map_append]; exact this) hg hob⟩; have HMV : Hid (∃ a c, mv = .slice a (L + 1) c) := own_formS ho; clear ho hg hnn hob)) | go_in)
            obtain ⟨xa9, xc9, hmv⟩ := HMV.out
            subst hmv
            clear OW9 OA9 NT9 HJ9 HMV
            go_wp2
            go_loopw [14, 15] (fun mv jv wr => ∃ (q : Nat) (xs : List ByteArray) (xa : Option Addr) (xc : Nat), q ≤ 64 ∧ jv = .int .i64 q ∧ mv = .slice xa (L + 1 + q) xc ∧ Hid (xs.length = L + 1 + q ∧ One (Ob ga B B) B (((s, (.slice ba L bc, ks)), (.slice wa L wc, ks)), (.slice xa (L + 1 + q) xc, xs)) w wr)) (fun _ jv _ => (64 - intOf jv).toNat)
            case atStart =>
              obtain ⟨xs, e, o⟩ := O9.out
              exact ⟨0, xs, xa9, xc9, Nat.zero_le _, rfl, rfl, e, o⟩
            case round =>
              obtain ⟨q, xs, xa, xc, hq, rfl, rfl, HQ⟩ := hrel
              by_cases hq64 : q < 64
              · have hq64' : (q : Int) < 64 := by omega
                obtain ⟨W5, HW5⟩ : ∃ W, Hid (wr.alloc (.cells #[.string ⟨#[109, 97, 114, 107]⟩] 9) = W) := ⟨_, rfl⟩
                obtain ⟨m, HM⟩ : ∃ m, Hid (L + 1 + q = m) := ⟨_, rfl⟩
                rw [HM.out] at HQ ⊢
                have OW9 : Hid (One (Ob ga B B) B (((s, (.slice ba L bc, ks)), (.slice wa L wc, ks)), (.slice xa m xc, xs)) w W5) := One.later HQ.out.2 (by rw [← HW5.out]; exact (Below.refl _ _).alloc (Nat.le_refl _) _)
                have OA9 : Hid (W5.ownsRow B 9 1 (.slice xa m xc) m (xs.map Value.string) ∧ B ≤ W5.heap.size) := ⟨by have := ow_get OW9.out; rw [show xs.length = m from HQ.out.1] at this; exact this, One.hb OW9.out⟩
                have NT9 : Hid (∀ (q : Nat) (x : Value), [Value.string ⟨#[109, 97, 114, 107]⟩][q]? = some x → W5.cell? (Addr.add ⟨wr.heap.size, 0, none⟩ q) = some x) := by rw [← HW5.out]; exact new_text _ _ _
                have hmx : Hid (m + 1 ≤ maxLen ∧ (m + 1) * 16 ≤ 140737488355328) := by have := HLN.out; have := HM.out; exact ⟨by unfold maxLen; omega, by omega⟩
                go_wp2_with (first | (at_builtin; rw [HW5.out]; (refine wpList_append_own_at _ rfl _ _ 30 rfl B 9 i9 (.string ByteArray.empty) 1 16 Try.underlying30 HIN.out.1 HIN.out.2.1 HIN.out.2.2.1 HIN.out.2.2.2 rfl (by decide) _ m _ rfl OA9.out.1 ⟨wr.heap.size, 0, none⟩ 1 1 [.string ⟨#[109, 97, 114, 107]⟩] rfl rfl NT9.out (one_text _) hmx.out.1 hmx.out.2 OA9.out.2 ?_; intro mv w9 ho hg hnn hob; have O9b : Hid (∃ ys : List ByteArray, ys.length = m + 1 ∧ One (Ob ga B B) B (((s, (.slice ba L bc, ks)), (.slice wa L wc, ks)), (mv, ys)) w w9) := ⟨xs ++ [mk], by rw [List.length_append, HQ.out.1]; rfl, ow_grown OW9.out (by have := ho; rw [List.length_append, show xs.length = m from HQ.out.1, List.map_append]; exact this) hg hob⟩; have HMV : Hid (∃ a c, mv = .slice a (m + 1) c) := own_formS ho; clear ho hg hnn hob)) | go_in)
                obtain ⟨xa8, xc8, hmv⟩ := HMV.out
                have REL : Hid (∃ (ys : List ByteArray), (ys.length = L + 1 + (q + 1) ∧ One (Ob ga B B) B (((s, (.slice ba L bc, ks)), (.slice wa L wc, ks)), (.slice xa8 (L + 1 + (q + 1)) xc8, ys)) w w9)) := by
                  obtain ⟨ys, e, o⟩ := O9b.out
                  have e2 : m + 1 = L + 1 + (q + 1) := by have := HM.out; omega
                  rw [hmv, e2] at o
                  exact ⟨ys, by omega, o⟩
                have HMVe : Hid (mv = .slice xa8 (L + 1 + (q + 1)) xc8) := by rw [hmv]; have := HM.out; show Value.slice _ _ _ = Value.slice _ _ _; congr 1; omega
                clear hmv
                go_roundw
                case rel =>
                  obtain ⟨ys, e⟩ := REL.out
                  exact ⟨q + 1, ys, xa8, xc8, by omega, by go_num, HMVe.out, e⟩
                case measure => simp [intOf]; omega
              · have hq64' : ¬ (q : Int) < 64 := by omega
                have hLq : Hid (L + 1 + q = L + 65) := by show _ = _; omega
                rw [hLq.out] at HQ ⊢
                have O10 : Hid (One (Ob ga B B) B (((s, (.slice ba L bc, ks)), (.slice wa L wc, ks)), (.slice xa (L + 65) xc, xs)) w wr) := HQ.out.2
                have C25 : Hid (Calls _ _ _ _ _) := CKa.out wr (One.fst (One.fst (One.fst O10.out)))
                clear HQ hLq
                go_upto_region 26 with (first | (go_at_call 21; refine C25.out.mono ?_; rintro _ w11 ⟨da, dc, rfl, hod, hbd⟩; have HOD : Hid (World.ownsRow _ _ _ _ _ _ _) := hod; have HBD : Hid (Below _ _ _) := hbd; clear hod hbd) | go_in)
                have HOD2 : Hid (w11.ownsRow wr.heap.size 9 1 (.slice da L dc) ks.length (ks.map Value.string)) := by rw [HKL.out]; exact HOD.out
                have RD11 : Hid (ReadsT w11 (.slice da L dc) ks) := own_readsT HOD2.out
                have O11 : Hid (One (Ob ga B B) B (((s, (.slice ba L bc, ks)), (.slice wa L wc, ks)), (.slice xa (L + 65) xc, xs)) w w11) := One.later O10.out HBD.out
                have C26 : Hid (Calls _ _ _ _ _) := SM.out (.slice ba L bc) (.slice wa L wc) ks w11 O11.out hk13.out (one_reads (One.fst (One.fst O11.out))) (one_reads (One.fst O11.out))
                have C26b : Hid (∀ w', One (Ob ga B B) B (((s, (.slice ba L bc, ks)), (.slice wa L wc, ks)), (.slice xa (L + 65) xc, xs)) w w' → Below w11.heap.size w11 w' → Calls Try.prog 20 #[.slice da L dc, .slice wa L wc] w' fun e w2 => e = .returned (.bool true) ∧ One (Ob ga B B) B (((s, (.slice ba L bc, ks)), (.slice wa L wc, ks)), (.slice xa (L + 65) xc, xs)) w w2) := fun w' h hb => (SM.out (.slice da L dc) (.slice wa L wc) ks w' h hk13.out (RD11.out.later hb) (one_reads (One.fst h))).mono fun e w2 ⟨g1, g2, _⟩ => ⟨g1, g2⟩
                have FL : Hid True := trivial
                clear C25 O10
                have hlen65 : ((L + 65 : Nat) : Int) = (L : Int) + 65 := by omega
                go_upto_region 28 with (first | (go_at_call 20; have _ := FL; refine C26.out.mono ?_; rintro _ w12 ⟨rfl, h12, hb12⟩; have O12 : Hid (One _ _ _ _ _) := h12; have B12 : Hid (Below _ _ _) := hb12; clear h12 hb12 FL) | (go_at_call 20; refine (C26b.out _ O12.out B12.out).mono ?_; rintro _ w13 ⟨rfl, h13⟩; have O13 : Hid (One _ _ _ _ _) := h13; clear h13) | go_in)
                obtain ⟨r, hrL, CPr⟩ := CPD.out L w13 (by omega) (by have := HLN.out; omega)
                have CPr : Hid (Calls _ _ _ _ _) := CPr
                have O14 : Hid (One (pairO (pairO (ChO ga B) (RowO rdT)) (RowO rdT)) B ((s, (.slice ba L bc, ks)), (.slice wa L wc, ks)) w w13) := One.fst O13.out
                have hrk : r < ks.length := by rw [HKL.out]; exact hrL
                obtain ⟨a9, c9, e9, _, hat9⟩ := rd_at (one_reads O14.out)
                obtain ⟨b9, off9, e10, dg⟩ := hat9 r hrk
                have e11 : wa = some ⟨b9, off9, none⟩ := by rw [← e10]; exact (Value.slice.inj e9).1
                obtain ⟨gk, hgk⟩ : ∃ g, ks[r] = g := ⟨_, rfl⟩
                have dgg : w13.cell? ⟨b9, off9 + r, none⟩ = some (.string gk) := by rw [← hgk]; exact dg
                clear dg
                have HGK : Hid (gk ∈ keys s.l) := by rw [HKS.out, ← hgk]; exact List.getElem_mem hrk
                subst e11
                clear e9 hat9 e10 hgk C26 C26b O11 O12 O13 B12
                have hpk := mem_keys.2 HGK.out
                have okG : okK gk := by
                  obtain ⟨F9, h9⟩ := One.get (One.fst (One.fst O14.out))
                  exact cKeysOk h9 gk HGK.out
                obtain ⟨gv, hgv⟩ := Option.isSome_iff_exists.1 hpk
                have hrm : (rm gk s.l).length + 1 = L := by rw [← HL.out]; exact rm_lt HKA.out.1.nd hgv
                have hno : fnd gk (rm gk s.l) = none := fnd_none.2 fun p hp => (mem_rm.1 hp).2
                have DR1 : Hid (Calls Try.prog 23 #[.pointer (some ⟨ga, 0, none⟩), .string gk] w13 fun e w2 => e = .returned (.bool true) ∧ One (pairO (pairO (ChO ga B) (RowO rdT)) (RowO rdT)) B ((dropS s gk, (.slice ba L bc, ks)), (.slice (some ⟨b9, off9, none⟩) L wc, ks)) w w2) := by
                  have := One.step O14.out (lift1 (lift1 (fun F h => cDrop gk h okG)))
                  rw [hgv] at this
                  exact this
                have DR2 : Hid (∀ w', One (pairO (pairO (ChO ga B) (RowO rdT)) (RowO rdT)) B ((dropS s gk, (.slice ba L bc, ks)), (.slice (some ⟨b9, off9, none⟩) L wc, ks)) w w' → Calls Try.prog 23 #[.pointer (some ⟨ga, 0, none⟩), .string gk] w' fun e w2 => e = .returned (.bool false) ∧ One (pairO (pairO (ChO ga B) (RowO rdT)) (RowO rdT)) B ((dropS s gk, (.slice ba L bc, ks)), (.slice (some ⟨b9, off9, none⟩) L wc, ks)) w w2) := fun w' h => by
                  have := One.step h (lift1 (lift1 (fun F h => cDrop gk h okG)))
                  rw [show fnd gk (dropS s gk).l = none from hno, show dropS (dropS s gk) gk = dropS s gk by show ({ s with l := rm gk (rm gk s.l) } : St) = { s with l := rm gk s.l }; rw [rm_none hno]] at this
                  exact this
                have PK : Hid (∀ w', One (pairO (pairO (ChO ga B) (RowO rdT)) (RowO rdT)) B ((dropS s gk, (.slice ba L bc, ks)), (.slice (some ⟨b9, off9, none⟩) L wc, ks)) w w' → Calls Try.prog 18 #[.pointer (some ⟨ga, 0, none⟩), .string gk] w' fun e w2 => e = .returned (.tuple #[.string ⟨#[]⟩, .bool false]) ∧ One (pairO (pairO (ChO ga B) (RowO rdT)) (RowO rdT)) B ((dropS s gk, (.slice ba L bc, ks)), (.slice (some ⟨b9, off9, none⟩) L wc, ks)) w w2) := fun w' h => by
                  have := cPeek gk (One.get (One.fst (One.fst h))).choose_spec okG
                  rw [show fnd gk (dropS s gk).l = none from hno] at this
                  exact this.mono fun e w2 ⟨g1, g2⟩ => ⟨g1, One.later h g2⟩
                have hfk : keys (rm gk s.l) = fl gk ks := by rw [← HKS.out]; exact (fl_keys gk s.l).symm
                have KL : Hid (∀ w', One (pairO (pairO (ChO ga B) (RowO rdT)) (RowO rdT)) B ((dropS s gk, (.slice ba L bc, ks)), (.slice (some ⟨b9, off9, none⟩) L wc, ks)) w w' → Calls Try.prog 21 #[.pointer (some ⟨ga, 0, none⟩)] w' fun e w2 => ∃ x, e = .returned x ∧ ReadsT w2 x (fl gk ks) ∧ One (pairO (pairO (ChO ga B) (RowO rdT)) (RowO rdT)) B ((dropS s gk, (.slice ba L bc, ks)), (.slice (some ⟨b9, off9, none⟩) L wc, ks)) w w2) := fun w' h => (cKeys (One.get (One.fst (One.fst h))).choose_spec).mono fun e w2 ⟨x, g1, g2, g3⟩ => ⟨x, g1, by have := own_readsT g2; rw [show keys (dropS s gk).l = fl gk ks from hfk] at this; exact this, One.later h g3⟩
                have WO : Hid (∀ x w', One (pairO (pairO (ChO ga B) (RowO rdT)) (RowO rdT)) B ((dropS s gk, (.slice ba L bc, ks)), (.slice (some ⟨b9, off9, none⟩) L wc, ks)) w w' → ReadsT w' x (fl gk ks) → Calls Try.prog 24 #[.slice (some ⟨b9, off9, none⟩) L wc, .string gk] w' fun e w2 => ∃ y, e = .returned y ∧ ReadsT w2 x (fl gk ks) ∧ ReadsT w2 y (fl gk ks) ∧ One (pairO (pairO (ChO ga B) (RowO rdT)) (RowO rdT)) B ((dropS s gk, (.slice ba L bc, ks)), (.slice (some ⟨b9, off9, none⟩) L wc, ks)) w w2) := fun x w' h hx => (withoutC _ ks gk w' (one_reads h) (by have := hk13.out; omega)).mono fun e w2 ⟨y, g1, g2, g3⟩ => ⟨y, g1, hx.later g3, own_readsT g2, One.later h g3⟩
                have SM2 : Hid (∀ x y w', One (pairO (pairO (ChO ga B) (RowO rdT)) (RowO rdT)) B ((dropS s gk, (.slice ba L bc, ks)), (.slice (some ⟨b9, off9, none⟩) L wc, ks)) w w' → ReadsT w' x (fl gk ks) → ReadsT w' y (fl gk ks) → Calls Try.prog 20 #[x, y] w' fun e w2 => e = .returned (.bool true) ∧ One (pairO (pairO (ChO ga B) (RowO rdT)) (RowO rdT)) B ((dropS s gk, (.slice ba L bc, ks)), (.slice (some ⟨b9, off9, none⟩) L wc, ks)) w w2) := fun x y w' h hx hy => (SM.out x y (fl gk ks) w' h (Nat.le_trans (fl_len _ _) hk13.out) hx hy).mono fun e w2 ⟨g1, g2, _⟩ => ⟨g1, g2⟩
                obtain ⟨L1, HL1⟩ : ∃ q, Hid ((rm gk s.l).length = q) := ⟨_, rfl⟩
                rw [HL1.out] at hrm
                have hL1 : (L : Int) - 1 = (L1 : Int) := by omega
                have LN1 : Hid (∀ w', One (pairO (pairO (ChO ga B) (RowO rdT)) (RowO rdT)) B ((dropS s gk, (.slice ba L bc, ks)), (.slice (some ⟨b9, off9, none⟩) L wc, ks)) w w' → Calls Try.prog 22 #[.pointer (some ⟨ga, 0, none⟩)] w' fun e w2 => e = .returned (.int .i64 (L1 : Nat)) ∧ w2 = w') := fun w' h => by
                  have := cLen (One.get (One.fst (One.fst h))).choose_spec
                  rw [show (dropS s gk).l.length = L1 from HL1.out] at this
                  exact this
                have CLR : Hid (∀ w', One (pairO (pairO (ChO ga B) (RowO rdT)) (RowO rdT)) B ((dropS s gk, (.slice ba L bc, ks)), (.slice (some ⟨b9, off9, none⟩) L wc, ks)) w w' → Calls Try.prog 25 #[.pointer (some ⟨ga, 0, none⟩)] w' fun e w2 => e = .returned (.tuple #[]) ∧ One (ChO ga B) B (clearS (dropS s gk)) w w2) := fun w' h => (One.step h (lift1 (lift1 (fun F h => cClear h)))).mono fun e w2 ⟨g1, g2⟩ => ⟨g1, One.fst (One.fst g2)⟩
                obtain ⟨zg, HZG⟩ : ∃ z, Hid (s.gone = z) := ⟨_, rfl⟩
                have CNT : Hid (∀ w', One (ChO ga B) B (clearS (dropS s gk)) w w' → Calls Try.prog 26 #[.pointer (some ⟨ga, 0, none⟩)] w' fun e w2 => e = .returned (.tuple #[.int .i64 0, .int .i64 0, .int .i64 (zg : Nat)]) ∧ One (ChO ga B) B (clearS (dropS s gk)) w w2) := fun w' h => by
                  have := cCounts (One.get h).choose_spec
                  rw [show (clearS (dropS s gk)).hits = 0 from HKA.out.2.hits, show (clearS (dropS s gk)).misses = 0 from HKA.out.2.misses, show (clearS (dropS s gk)).gone = zg from HZG.out] at this
                  exact this.mono fun e w2 ⟨g1, g2⟩ => ⟨g1, One.later h g2⟩
                have LN0 : Hid (∀ w', One (ChO ga B) B (clearS (dropS s gk)) w w' → Calls Try.prog 22 #[.pointer (some ⟨ga, 0, none⟩)] w' fun e w2 => e = .returned (.int .i64 0) ∧ w2 = w') := fun w' h => cLen (One.get h).choose_spec
                have KL0 : Hid (∀ w', One (ChO ga B) B (clearS (dropS s gk)) w w' → Calls Try.prog 21 #[.pointer (some ⟨ga, 0, none⟩)] w' fun e w2 => ∃ a c, e = .returned (.slice a 0 c) ∧ One (ChO ga B) B (clearS (dropS s gk)) w w2) := fun w' h => (cKeys (One.get h).choose_spec).mono fun e w2 ⟨x, g1, g2, g3⟩ => by
                  obtain ⟨a, c, e1⟩ := own_formS g2
                  exact ⟨a, c, by rw [g1, e1]; rfl, One.later h g3⟩
                clear hno hgv hpk hrm hfk hrk HL1 HZG CKa SM
                go_upto_region 30 with (first | (go_at_call 13; refine CPr.out.mono ?_; rintro _ wz ⟨rfl, hwz⟩; rw [hwz]; clear hwz) | (go_at_call 23; refine DR1.out.mono ?_; rintro _ w15 ⟨rfl, h15⟩; have O15 : Hid (One _ _ _ _ _) := h15; clear h15) | go_in)
                clear dgg
                go_upto_region 31 with (first | (go_at_call 23; refine (DR2.out _ O15.out).mono ?_; rintro _ w16 ⟨rfl, h16⟩; have O16 : Hid (One _ _ _ _ _) := h16; clear h16) | go_in)
                go_upto_region 35 with (first | (go_at_call 18; refine (PK.out _ O16.out).mono ?_; rintro _ w17 ⟨rfl, h17⟩; have O17 : Hid (One _ _ _ _ _) := h17; clear h17) | (go_at_call 21; refine (KL.out _ O17.out).mono ?_; rintro _ w18 ⟨lx, rfl, hx, h18⟩; have O18 : Hid (One _ _ _ _ _) := h18; have HXL : Hid (ReadsT _ _ _) := hx; clear h18 hx) | (go_at_call 24; refine (WO.out _ _ O18.out HXL.out).mono ?_; rintro _ w19 ⟨ly, rfl, hx, hy, h19⟩; have O19 : Hid (One _ _ _ _ _) := h19; have HX19 : Hid (ReadsT _ _ _) := hx; have HY19 : Hid (ReadsT _ _ _) := hy; clear h19 hx hy) | (go_at_call 20; refine (SM2.out _ _ _ O19.out HX19.out HY19.out).mono ?_; rintro _ w20 ⟨rfl, h20⟩; have O20 : Hid (One _ _ _ _ _) := h20; clear h20) | (go_at_call 22; refine (LN1.out _ O20.out).mono ?_; rintro _ wz ⟨rfl, hwz⟩; rw [hwz]; clear hwz) | go_in)
                go_wp2_with (first | (go_at_call 25; refine (CLR.out _ O20.out).mono ?_; rintro _ w21 ⟨rfl, h21⟩; have O21 : Hid (One _ _ _ _ _) := h21; clear h21) | (go_at_call 26; refine (CNT.out _ O21.out).mono ?_; rintro _ w22 ⟨rfl, h22⟩; have O22 : Hid (One _ _ _ _ _) := h22; clear h22) | (go_at_call 22; refine (LN0.out _ O22.out).mono ?_; rintro _ wz ⟨rfl, hwz⟩; rw [hwz]; clear hwz) | (go_at_call 21; refine (KL0.out _ O22.out).mono ?_; rintro _ w23 ⟨ea, ec, rfl, h23⟩; have O23 : Hid (One _ _ _ _ _) := h23; clear h23) | go_in)
                go_ret
                exact ⟨by first | rfl | (congr 2; simp), by rw [HB.out]; exact One.below O23.out⟩
      · have h1' : ¬ (i : Int) < N := by omega
        clear hnext
        go_upto_region 12 with (first | (go_at_call 21; refine (CKa.out _ HO.out).mono ?_; rintro _ w5 ⟨aa, ac, rfl, hoa, hba⟩; have HOA : Hid (World.ownsRow _ _ _ _ _ _ _) := hoa; have HBA : Hid (Below _ _ _) := hba; clear hoa hba) | go_in)
        have HOA2 : Hid (w5.ownsRow wr.heap.size 9 1 (.slice aa L ac) ks.length (ks.map Value.string)) := by rw [HKL.out]; exact HOA.out
        have O5 : Hid (One (pairO (ChO ga B) (OwO B)) B (s, (.slice aa L ac, ks)) w w5) := One.put HO.out (ow_new HOA2.out (One.hb HO.out)).1 HBA.out (ow_new (B := B) HOA2.out (One.hb HO.out)).2
        go_upto_region 13 with (first | (go_at_call 21; refine (CKa.out _ (One.fst O5.out)).mono ?_; rintro _ w6 ⟨ba, bc, rfl, hoa, hba⟩; have HOB : Hid (World.ownsRow _ _ _ _ _ _ _) := hoa; have HBB : Hid (Below _ _ _) := hba; clear hoa hba) | go_in)
        have HOB2 : Hid (w6.ownsRow w5.heap.size 9 1 (.slice ba L bc) ks.length (ks.map Value.string)) := by rw [HKL.out]; exact HOB.out
        have O6 : Hid (One (pairO (pairO (ChO ga B) (OwO B)) (RowO rdT)) B ((s, (.slice aa L ac, ks)), (.slice ba L bc, ks)) w w6) := One.put O5.out (row_new (r := rdT) (own_readsT HOB2.out) HOB2.out.lt).1 HBB.out (row_new (r := rdT) (own_readsT HOB2.out) HOB2.out.lt).2
        have RA6 : Hid (ReadsT w6 (.slice aa L ac) ks) := own_readsT (ow_get (One.fst O6.out))
        have NA6 : Hid ((Value.slice aa L ac).ownBlock = none → Value.slice aa L ac = .slice none 0 0) := fun e => own_none (ow_get (One.fst O6.out)) e
        have HB6 : Hid (Below w6.heap.size w6 w6) := Below.refl _ _
        go_upto_region 14 with (first | (at_builtin; refine wpList_append_texts _ rfl _ _ rfl w6.heap.size _ [] rfl (World.ownsRow_nil _ _ _ _) _ ks rfl RA6.out NA6.out (by have := hk13.out; unfold maxLen; simp only [List.length_nil]; omega) (by have := hk13.out; simp only [List.length_nil]; omega) (Nat.le_refl _) ?_; intro wv w7 ho hg hob; have HOW0 : Hid (World.ownsRow _ _ _ _ _ _ _) := ho; have HGW : Hid (World.grownBy _ _ _) := hg; clear ho hg hob) | go_in)
        have HOW : Hid (w7.ownsRow w6.heap.size 9 1 wv L (ks.map Value.string)) := by have := HOW0.out; rw [List.nil_append, HKL.out] at this; exact this
        have HOW2 : Hid (w7.ownsRow w6.heap.size 9 1 wv ks.length (ks.map Value.string)) := by rw [HKL.out]; exact HOW.out
        have O7 : Hid (One (pairO (pairO (pairO (ChO ga B) (OwO B)) (RowO rdT)) (RowO rdT)) B (((s, (.slice aa L ac, ks)), (.slice ba L bc, ks)), (wv, ks)) w w7) := One.put O6.out (row_new (r := rdT) (own_readsT HOW2.out) HOW2.out.lt).1 (below_grownBy HB6.out HGW.out (Nat.le_refl _) (fun j hj => (by cases hj))) (row_new (r := rdT) (own_readsT HOW2.out) HOW2.out.lt).2
        obtain ⟨wa, wc, hwv⟩ := own_formS HOW.out
        subst hwv
        have O7r : Hid (One (Ob ga B B) B (((s, (.slice ba L bc, ks)), (.slice wa L wc, ks)), (.slice aa L ac, ks)) w w7) := rot O7.out
        have C14 : Hid (Calls _ _ _ _ _) := SM.out (.slice aa L ac) (.slice ba L bc) ks w7 O7r.out hk13.out (own_readsT (ow_get O7r.out)) (one_reads (One.fst (One.fst O7r.out)))
        have hLt2 : ¬ (L : Int) < 2 := by omega
        have hLtn : ¬ (n : Int) < (L : Int) := by omega
        have hLtn2 : ¬ n < L := by omega
        have hLt3 : ¬ L < 2 := by omega
        clear O5 O6 O7 HOW RA6 NA6 HB6 HO HOA HOA2 HBA HOB HOB2 HBB HOW0 HOW2 HGW
        go_upto_region 16 with (first | (go_at_call 20; refine C14.out.mono ?_; rintro _ w8 ⟨rfl, h8, _⟩; have O8 : Hid (One _ _ _ _ _) := h8; clear h8) | go_in)
        obtain ⟨ab, hab⟩ : ∃ ab, aa = some ⟨ab, 0, none⟩ := by
          have h0 := ow_get O8.out
          rcases h0.2 with ⟨e, _⟩ | ⟨g', cap, cur', e, _⟩
          · have := (Value.slice.inj e).2.1; omega
          · exact ⟨g', (Value.slice.inj e).1⟩
        subst hab
        clear C14
        have O8m : Hid (One (Ob ga B B) B (((s, (.slice ba L bc, ks)), (.slice wa L wc, ks)), (.slice (some ⟨ab, 0, none⟩) L ac, mks ks 0)) w w8) := O8.out
        go_wp2
        go_loopw [13] (fun jv wr => ∃ j : Nat, j ≤ L ∧ jv = .int .i64 j ∧ Hid (One (Ob ga B B) B (((s, (.slice ba L bc, ks)), (.slice wa L wc, ks)), (.slice (some ⟨ab, 0, none⟩) L ac, mks ks j)) w wr)) (fun jv _ => (L - intOf jv).toNat)
        case atStart => exact ⟨0, Nat.zero_le _, rfl, O8m⟩
        case round =>
          obtain ⟨j, hj, rfl, HJ⟩ := hrel
          by_cases hjL : j < L
          · have hjL' : (j : Int) < L := by omega
            have hjk : j < ks.length := by rw [HKL.out]; exact hjL
            have ow := ow_get HJ.out
            have e9 : (mks ks j).length = L := by rw [mks_len (by omega), HKL.out]
            have ow : wr.ownsRow B 9 1 (.slice (some ⟨ab, 0, none⟩) L ac) L ((mks ks j).map Value.string) := by have := ow; rw [e9] at this; exact this
            have hm : j < (mks ks j).length := by rw [e9]; exact hjL
            have d0 : wr.cell? ⟨ab, j, none⟩ = some (.string (mks ks j)[j]) := by rw [ow.cellAt j (by omega), List.getElem?_map, List.getElem?_eq_getElem hm]; rfl
            have f0 : wr.frozen? ⟨ab, j, none⟩ = false := ow.frozenAt j
            have HJ2 : Hid (One (Ob ga B B) B (((s, (.slice ba L bc, ks)), (.slice wa L wc, ks)), (.slice (some ⟨ab, 0, none⟩) L ac, mks ks (j + 1))) w (wr.setCell ⟨ab, j, none⟩ (.string ⟨#[109, 97, 114, 107]⟩))) := by have := ow_set HJ.out j mk hm; rw [mks_set hjk] at this; exact this
            obtain ⟨y, hy⟩ : ∃ y, (mks ks j)[j] = y := ⟨_, rfl⟩
            rw [hy] at d0
            clear ow e9 hm hy
            go_wp2
            go_roundw
            case rel => exact ⟨j + 1, by omega, by go_num, HJ2⟩
            case measure => simp [intOf]; omega
          · have hjL' : ¬ (j : Int) < L := by omega
            have HJ9 : Hid (One (Ob ga B B) B (((s, (.slice ba L bc, ks)), (.slice wa L wc, ks)), (.slice (some ⟨ab, 0, none⟩) L ac, mks ks L)) w wr) := by rw [show mks ks L = mks ks j by rw [(by omega : j = L)]]; exact HJ
            obtain ⟨W, HW⟩ : ∃ W, Hid (wr.alloc (.cells #[.string ⟨#[109, 97, 114, 107]⟩] 9) = W) := ⟨_, rfl⟩
            have OW9 : Hid (One (Ob ga B B) B (((s, (.slice ba L bc, ks)), (.slice wa L wc, ks)), (.slice (some ⟨ab, 0, none⟩) L ac, mks ks L)) w W) := One.later HJ9.out (by rw [← HW.out]; exact (Below.refl _ _).alloc (Nat.le_refl _) _)
            have OA9 : Hid (W.ownsRow B 9 1 (.slice (some ⟨ab, 0, none⟩) L ac) L ((mks ks L).map Value.string) ∧ B ≤ W.heap.size) := ⟨by have := ow_get OW9.out; rw [show (mks ks L).length = L by rw [mks_len (by rw [HKL.out]; exact Nat.le_refl _), HKL.out]] at this; exact this, One.hb OW9.out⟩
            have NT9 : Hid (∀ (q : Nat) (x : Value), [Value.string ⟨#[109, 97, 114, 107]⟩][q]? = some x → W.cell? (Addr.add ⟨wr.heap.size, 0, none⟩ q) = some x) := by rw [← HW.out]; exact new_text _ _ _
            clear HJ
            go_upto_region 21 with (first | (at_builtin; rw [HW.out]; (refine wpList_append_own_at _ rfl _ _ 30 rfl B 9 i9 (.string ByteArray.empty) 1 16 Try.underlying30 HIN.out.1 HIN.out.2.1 HIN.out.2.2.1 HIN.out.2.2.2 rfl (by decide) _ L _ rfl OA9.out.1 ⟨wr.heap.size, 0, none⟩ 1 1 [.string ⟨#[109, 97, 114, 107]⟩] rfl rfl NT9.out (one_text _) (by have := HLN.out; unfold maxLen; omega) (by have := HLN.out; omega) OA9.out.2 ?_; intro mv w9 ho hg hnn hob; have O9 : Hid (∃ xs : List ByteArray, xs.length = L + 1 ∧ One (Ob ga B B) B (((s, (.slice ba L bc, ks)), (.slice wa L wc, ks)), (mv, xs)) w w9) := ⟨mks ks L ++ [mk], by rw [List.length_append, mks_len (by rw [HKL.out]; exact Nat.le_refl _), HKL.out]; rfl, ow_grown OW9.out (by have := ho; rw [List.length_append, mks_len (by rw [HKL.out]; exact Nat.le_refl _), HKL.out, List.map_append]; exact this) hg hob⟩; have HMV : Hid (∃ a c, mv = .slice a (L + 1) c) := own_formS ho; clear ho hg hnn hob)) | go_in)
            obtain ⟨xa9, xc9, hmv⟩ := HMV.out
            subst hmv
            clear OW9 OA9 NT9 HJ9 HMV
            go_wp2
            go_loopw [14, 15] (fun mv jv wr => ∃ (q : Nat) (xs : List ByteArray) (xa : Option Addr) (xc : Nat), q ≤ 64 ∧ jv = .int .i64 q ∧ mv = .slice xa (L + 1 + q) xc ∧ Hid (xs.length = L + 1 + q ∧ One (Ob ga B B) B (((s, (.slice ba L bc, ks)), (.slice wa L wc, ks)), (.slice xa (L + 1 + q) xc, xs)) w wr)) (fun _ jv _ => (64 - intOf jv).toNat)
            case atStart =>
              obtain ⟨xs, e, o⟩ := O9.out
              exact ⟨0, xs, xa9, xc9, Nat.zero_le _, rfl, rfl, e, o⟩
            case round =>
              obtain ⟨q, xs, xa, xc, hq, rfl, rfl, HQ⟩ := hrel
              by_cases hq64 : q < 64
              · have hq64' : (q : Int) < 64 := by omega
                obtain ⟨W5, HW5⟩ : ∃ W, Hid (wr.alloc (.cells #[.string ⟨#[109, 97, 114, 107]⟩] 9) = W) := ⟨_, rfl⟩
                obtain ⟨m, HM⟩ : ∃ m, Hid (L + 1 + q = m) := ⟨_, rfl⟩
                rw [HM.out] at HQ ⊢
                have OW9 : Hid (One (Ob ga B B) B (((s, (.slice ba L bc, ks)), (.slice wa L wc, ks)), (.slice xa m xc, xs)) w W5) := One.later HQ.out.2 (by rw [← HW5.out]; exact (Below.refl _ _).alloc (Nat.le_refl _) _)
                have OA9 : Hid (W5.ownsRow B 9 1 (.slice xa m xc) m (xs.map Value.string) ∧ B ≤ W5.heap.size) := ⟨by have := ow_get OW9.out; rw [show xs.length = m from HQ.out.1] at this; exact this, One.hb OW9.out⟩
                have NT9 : Hid (∀ (q : Nat) (x : Value), [Value.string ⟨#[109, 97, 114, 107]⟩][q]? = some x → W5.cell? (Addr.add ⟨wr.heap.size, 0, none⟩ q) = some x) := by rw [← HW5.out]; exact new_text _ _ _
                have hmx : Hid (m + 1 ≤ maxLen ∧ (m + 1) * 16 ≤ 140737488355328) := by have := HLN.out; have := HM.out; exact ⟨by unfold maxLen; omega, by omega⟩
                go_wp2_with (first | (at_builtin; rw [HW5.out]; (refine wpList_append_own_at _ rfl _ _ 30 rfl B 9 i9 (.string ByteArray.empty) 1 16 Try.underlying30 HIN.out.1 HIN.out.2.1 HIN.out.2.2.1 HIN.out.2.2.2 rfl (by decide) _ m _ rfl OA9.out.1 ⟨wr.heap.size, 0, none⟩ 1 1 [.string ⟨#[109, 97, 114, 107]⟩] rfl rfl NT9.out (one_text _) hmx.out.1 hmx.out.2 OA9.out.2 ?_; intro mv w9 ho hg hnn hob; have O9b : Hid (∃ ys : List ByteArray, ys.length = m + 1 ∧ One (Ob ga B B) B (((s, (.slice ba L bc, ks)), (.slice wa L wc, ks)), (mv, ys)) w w9) := ⟨xs ++ [mk], by rw [List.length_append, HQ.out.1]; rfl, ow_grown OW9.out (by have := ho; rw [List.length_append, show xs.length = m from HQ.out.1, List.map_append]; exact this) hg hob⟩; have HMV : Hid (∃ a c, mv = .slice a (m + 1) c) := own_formS ho; clear ho hg hnn hob)) | go_in)
                obtain ⟨xa8, xc8, hmv⟩ := HMV.out
                have REL : Hid (∃ (ys : List ByteArray), (ys.length = L + 1 + (q + 1) ∧ One (Ob ga B B) B (((s, (.slice ba L bc, ks)), (.slice wa L wc, ks)), (.slice xa8 (L + 1 + (q + 1)) xc8, ys)) w w9)) := by
                  obtain ⟨ys, e, o⟩ := O9b.out
                  have e2 : m + 1 = L + 1 + (q + 1) := by have := HM.out; omega
                  rw [hmv, e2] at o
                  exact ⟨ys, by omega, o⟩
                have HMVe : Hid (mv = .slice xa8 (L + 1 + (q + 1)) xc8) := by rw [hmv]; have := HM.out; show Value.slice _ _ _ = Value.slice _ _ _; congr 1; omega
                clear hmv
                go_roundw
                case rel =>
                  obtain ⟨ys, e⟩ := REL.out
                  exact ⟨q + 1, ys, xa8, xc8, by omega, by go_num, HMVe.out, e⟩
                case measure => simp [intOf]; omega
              · have hq64' : ¬ (q : Int) < 64 := by omega
                have hLq : Hid (L + 1 + q = L + 65) := by show _ = _; omega
                rw [hLq.out] at HQ ⊢
                have O10 : Hid (One (Ob ga B B) B (((s, (.slice ba L bc, ks)), (.slice wa L wc, ks)), (.slice xa (L + 65) xc, xs)) w wr) := HQ.out.2
                have C25 : Hid (Calls _ _ _ _ _) := CKa.out wr (One.fst (One.fst (One.fst O10.out)))
                clear HQ hLq
                go_upto_region 26 with (first | (go_at_call 21; refine C25.out.mono ?_; rintro _ w11 ⟨da, dc, rfl, hod, hbd⟩; have HOD : Hid (World.ownsRow _ _ _ _ _ _ _) := hod; have HBD : Hid (Below _ _ _) := hbd; clear hod hbd) | go_in)
                have HOD2 : Hid (w11.ownsRow wr.heap.size 9 1 (.slice da L dc) ks.length (ks.map Value.string)) := by rw [HKL.out]; exact HOD.out
                have RD11 : Hid (ReadsT w11 (.slice da L dc) ks) := own_readsT HOD2.out
                have O11 : Hid (One (Ob ga B B) B (((s, (.slice ba L bc, ks)), (.slice wa L wc, ks)), (.slice xa (L + 65) xc, xs)) w w11) := One.later O10.out HBD.out
                have C26 : Hid (Calls _ _ _ _ _) := SM.out (.slice ba L bc) (.slice wa L wc) ks w11 O11.out hk13.out (one_reads (One.fst (One.fst O11.out))) (one_reads (One.fst O11.out))
                have C26b : Hid (∀ w', One (Ob ga B B) B (((s, (.slice ba L bc, ks)), (.slice wa L wc, ks)), (.slice xa (L + 65) xc, xs)) w w' → Below w11.heap.size w11 w' → Calls Try.prog 20 #[.slice da L dc, .slice wa L wc] w' fun e w2 => e = .returned (.bool true) ∧ One (Ob ga B B) B (((s, (.slice ba L bc, ks)), (.slice wa L wc, ks)), (.slice xa (L + 65) xc, xs)) w w2) := fun w' h hb => (SM.out (.slice da L dc) (.slice wa L wc) ks w' h hk13.out (RD11.out.later hb) (one_reads (One.fst h))).mono fun e w2 ⟨g1, g2, _⟩ => ⟨g1, g2⟩
                have FL : Hid True := trivial
                clear C25 O10
                have hlen65 : ((L + 65 : Nat) : Int) = (L : Int) + 65 := by omega
                go_upto_region 28 with (first | (go_at_call 20; have _ := FL; refine C26.out.mono ?_; rintro _ w12 ⟨rfl, h12, hb12⟩; have O12 : Hid (One _ _ _ _ _) := h12; have B12 : Hid (Below _ _ _) := hb12; clear h12 hb12 FL) | (go_at_call 20; refine (C26b.out _ O12.out B12.out).mono ?_; rintro _ w13 ⟨rfl, h13⟩; have O13 : Hid (One _ _ _ _ _) := h13; clear h13) | go_in)
                obtain ⟨r, hrL, CPr⟩ := CPD.out L w13 (by omega) (by have := HLN.out; omega)
                have CPr : Hid (Calls _ _ _ _ _) := CPr
                have O14 : Hid (One (pairO (pairO (ChO ga B) (RowO rdT)) (RowO rdT)) B ((s, (.slice ba L bc, ks)), (.slice wa L wc, ks)) w w13) := One.fst O13.out
                have hrk : r < ks.length := by rw [HKL.out]; exact hrL
                obtain ⟨a9, c9, e9, _, hat9⟩ := rd_at (one_reads O14.out)
                obtain ⟨b9, off9, e10, dg⟩ := hat9 r hrk
                have e11 : wa = some ⟨b9, off9, none⟩ := by rw [← e10]; exact (Value.slice.inj e9).1
                obtain ⟨gk, hgk⟩ : ∃ g, ks[r] = g := ⟨_, rfl⟩
                have dgg : w13.cell? ⟨b9, off9 + r, none⟩ = some (.string gk) := by rw [← hgk]; exact dg
                clear dg
                have HGK : Hid (gk ∈ keys s.l) := by rw [HKS.out, ← hgk]; exact List.getElem_mem hrk
                subst e11
                clear e9 hat9 e10 hgk C26 C26b O11 O12 O13 B12
                have hpk := mem_keys.2 HGK.out
                have okG : okK gk := by
                  obtain ⟨F9, h9⟩ := One.get (One.fst (One.fst O14.out))
                  exact cKeysOk h9 gk HGK.out
                obtain ⟨gv, hgv⟩ := Option.isSome_iff_exists.1 hpk
                have hrm : (rm gk s.l).length + 1 = L := by rw [← HL.out]; exact rm_lt HKA.out.1.nd hgv
                have hno : fnd gk (rm gk s.l) = none := fnd_none.2 fun p hp => (mem_rm.1 hp).2
                have DR1 : Hid (Calls Try.prog 23 #[.pointer (some ⟨ga, 0, none⟩), .string gk] w13 fun e w2 => e = .returned (.bool true) ∧ One (pairO (pairO (ChO ga B) (RowO rdT)) (RowO rdT)) B ((dropS s gk, (.slice ba L bc, ks)), (.slice (some ⟨b9, off9, none⟩) L wc, ks)) w w2) := by
                  have := One.step O14.out (lift1 (lift1 (fun F h => cDrop gk h okG)))
                  rw [hgv] at this
                  exact this
                have DR2 : Hid (∀ w', One (pairO (pairO (ChO ga B) (RowO rdT)) (RowO rdT)) B ((dropS s gk, (.slice ba L bc, ks)), (.slice (some ⟨b9, off9, none⟩) L wc, ks)) w w' → Calls Try.prog 23 #[.pointer (some ⟨ga, 0, none⟩), .string gk] w' fun e w2 => e = .returned (.bool false) ∧ One (pairO (pairO (ChO ga B) (RowO rdT)) (RowO rdT)) B ((dropS s gk, (.slice ba L bc, ks)), (.slice (some ⟨b9, off9, none⟩) L wc, ks)) w w2) := fun w' h => by
                  have := One.step h (lift1 (lift1 (fun F h => cDrop gk h okG)))
                  rw [show fnd gk (dropS s gk).l = none from hno, show dropS (dropS s gk) gk = dropS s gk by show ({ s with l := rm gk (rm gk s.l) } : St) = { s with l := rm gk s.l }; rw [rm_none hno]] at this
                  exact this
                have PK : Hid (∀ w', One (pairO (pairO (ChO ga B) (RowO rdT)) (RowO rdT)) B ((dropS s gk, (.slice ba L bc, ks)), (.slice (some ⟨b9, off9, none⟩) L wc, ks)) w w' → Calls Try.prog 18 #[.pointer (some ⟨ga, 0, none⟩), .string gk] w' fun e w2 => e = .returned (.tuple #[.string ⟨#[]⟩, .bool false]) ∧ One (pairO (pairO (ChO ga B) (RowO rdT)) (RowO rdT)) B ((dropS s gk, (.slice ba L bc, ks)), (.slice (some ⟨b9, off9, none⟩) L wc, ks)) w w2) := fun w' h => by
                  have := cPeek gk (One.get (One.fst (One.fst h))).choose_spec okG
                  rw [show fnd gk (dropS s gk).l = none from hno] at this
                  exact this.mono fun e w2 ⟨g1, g2⟩ => ⟨g1, One.later h g2⟩
                have hfk : keys (rm gk s.l) = fl gk ks := by rw [← HKS.out]; exact (fl_keys gk s.l).symm
                have KL : Hid (∀ w', One (pairO (pairO (ChO ga B) (RowO rdT)) (RowO rdT)) B ((dropS s gk, (.slice ba L bc, ks)), (.slice (some ⟨b9, off9, none⟩) L wc, ks)) w w' → Calls Try.prog 21 #[.pointer (some ⟨ga, 0, none⟩)] w' fun e w2 => ∃ x, e = .returned x ∧ ReadsT w2 x (fl gk ks) ∧ One (pairO (pairO (ChO ga B) (RowO rdT)) (RowO rdT)) B ((dropS s gk, (.slice ba L bc, ks)), (.slice (some ⟨b9, off9, none⟩) L wc, ks)) w w2) := fun w' h => (cKeys (One.get (One.fst (One.fst h))).choose_spec).mono fun e w2 ⟨x, g1, g2, g3⟩ => ⟨x, g1, by have := own_readsT g2; rw [show keys (dropS s gk).l = fl gk ks from hfk] at this; exact this, One.later h g3⟩
                have WO : Hid (∀ x w', One (pairO (pairO (ChO ga B) (RowO rdT)) (RowO rdT)) B ((dropS s gk, (.slice ba L bc, ks)), (.slice (some ⟨b9, off9, none⟩) L wc, ks)) w w' → ReadsT w' x (fl gk ks) → Calls Try.prog 24 #[.slice (some ⟨b9, off9, none⟩) L wc, .string gk] w' fun e w2 => ∃ y, e = .returned y ∧ ReadsT w2 x (fl gk ks) ∧ ReadsT w2 y (fl gk ks) ∧ One (pairO (pairO (ChO ga B) (RowO rdT)) (RowO rdT)) B ((dropS s gk, (.slice ba L bc, ks)), (.slice (some ⟨b9, off9, none⟩) L wc, ks)) w w2) := fun x w' h hx => (withoutC _ ks gk w' (one_reads h) (by have := hk13.out; omega)).mono fun e w2 ⟨y, g1, g2, g3⟩ => ⟨y, g1, hx.later g3, own_readsT g2, One.later h g3⟩
                have SM2 : Hid (∀ x y w', One (pairO (pairO (ChO ga B) (RowO rdT)) (RowO rdT)) B ((dropS s gk, (.slice ba L bc, ks)), (.slice (some ⟨b9, off9, none⟩) L wc, ks)) w w' → ReadsT w' x (fl gk ks) → ReadsT w' y (fl gk ks) → Calls Try.prog 20 #[x, y] w' fun e w2 => e = .returned (.bool true) ∧ One (pairO (pairO (ChO ga B) (RowO rdT)) (RowO rdT)) B ((dropS s gk, (.slice ba L bc, ks)), (.slice (some ⟨b9, off9, none⟩) L wc, ks)) w w2) := fun x y w' h hx hy => (SM.out x y (fl gk ks) w' h (Nat.le_trans (fl_len _ _) hk13.out) hx hy).mono fun e w2 ⟨g1, g2, _⟩ => ⟨g1, g2⟩
                obtain ⟨L1, HL1⟩ : ∃ q, Hid ((rm gk s.l).length = q) := ⟨_, rfl⟩
                rw [HL1.out] at hrm
                have hL1 : (L : Int) - 1 = (L1 : Int) := by omega
                have LN1 : Hid (∀ w', One (pairO (pairO (ChO ga B) (RowO rdT)) (RowO rdT)) B ((dropS s gk, (.slice ba L bc, ks)), (.slice (some ⟨b9, off9, none⟩) L wc, ks)) w w' → Calls Try.prog 22 #[.pointer (some ⟨ga, 0, none⟩)] w' fun e w2 => e = .returned (.int .i64 (L1 : Nat)) ∧ w2 = w') := fun w' h => by
                  have := cLen (One.get (One.fst (One.fst h))).choose_spec
                  rw [show (dropS s gk).l.length = L1 from HL1.out] at this
                  exact this
                have CLR : Hid (∀ w', One (pairO (pairO (ChO ga B) (RowO rdT)) (RowO rdT)) B ((dropS s gk, (.slice ba L bc, ks)), (.slice (some ⟨b9, off9, none⟩) L wc, ks)) w w' → Calls Try.prog 25 #[.pointer (some ⟨ga, 0, none⟩)] w' fun e w2 => e = .returned (.tuple #[]) ∧ One (ChO ga B) B (clearS (dropS s gk)) w w2) := fun w' h => (One.step h (lift1 (lift1 (fun F h => cClear h)))).mono fun e w2 ⟨g1, g2⟩ => ⟨g1, One.fst (One.fst g2)⟩
                obtain ⟨zg, HZG⟩ : ∃ z, Hid (s.gone = z) := ⟨_, rfl⟩
                have CNT : Hid (∀ w', One (ChO ga B) B (clearS (dropS s gk)) w w' → Calls Try.prog 26 #[.pointer (some ⟨ga, 0, none⟩)] w' fun e w2 => e = .returned (.tuple #[.int .i64 0, .int .i64 0, .int .i64 (zg : Nat)]) ∧ One (ChO ga B) B (clearS (dropS s gk)) w w2) := fun w' h => by
                  have := cCounts (One.get h).choose_spec
                  rw [show (clearS (dropS s gk)).hits = 0 from HKA.out.2.hits, show (clearS (dropS s gk)).misses = 0 from HKA.out.2.misses, show (clearS (dropS s gk)).gone = zg from HZG.out] at this
                  exact this.mono fun e w2 ⟨g1, g2⟩ => ⟨g1, One.later h g2⟩
                have LN0 : Hid (∀ w', One (ChO ga B) B (clearS (dropS s gk)) w w' → Calls Try.prog 22 #[.pointer (some ⟨ga, 0, none⟩)] w' fun e w2 => e = .returned (.int .i64 0) ∧ w2 = w') := fun w' h => cLen (One.get h).choose_spec
                have KL0 : Hid (∀ w', One (ChO ga B) B (clearS (dropS s gk)) w w' → Calls Try.prog 21 #[.pointer (some ⟨ga, 0, none⟩)] w' fun e w2 => ∃ a c, e = .returned (.slice a 0 c) ∧ One (ChO ga B) B (clearS (dropS s gk)) w w2) := fun w' h => (cKeys (One.get h).choose_spec).mono fun e w2 ⟨x, g1, g2, g3⟩ => by
                  obtain ⟨a, c, e1⟩ := own_formS g2
                  exact ⟨a, c, by rw [g1, e1]; rfl, One.later h g3⟩
                clear hno hgv hpk hrm hfk hrk HL1 HZG CKa SM
                go_upto_region 30 with (first | (go_at_call 13; refine CPr.out.mono ?_; rintro _ wz ⟨rfl, hwz⟩; rw [hwz]; clear hwz) | (go_at_call 23; refine DR1.out.mono ?_; rintro _ w15 ⟨rfl, h15⟩; have O15 : Hid (One _ _ _ _ _) := h15; clear h15) | go_in)
                clear dgg
                go_upto_region 31 with (first | (go_at_call 23; refine (DR2.out _ O15.out).mono ?_; rintro _ w16 ⟨rfl, h16⟩; have O16 : Hid (One _ _ _ _ _) := h16; clear h16) | go_in)
                go_upto_region 35 with (first | (go_at_call 18; refine (PK.out _ O16.out).mono ?_; rintro _ w17 ⟨rfl, h17⟩; have O17 : Hid (One _ _ _ _ _) := h17; clear h17) | (go_at_call 21; refine (KL.out _ O17.out).mono ?_; rintro _ w18 ⟨lx, rfl, hx, h18⟩; have O18 : Hid (One _ _ _ _ _) := h18; have HXL : Hid (ReadsT _ _ _) := hx; clear h18 hx) | (go_at_call 24; refine (WO.out _ _ O18.out HXL.out).mono ?_; rintro _ w19 ⟨ly, rfl, hx, hy, h19⟩; have O19 : Hid (One _ _ _ _ _) := h19; have HX19 : Hid (ReadsT _ _ _) := hx; have HY19 : Hid (ReadsT _ _ _) := hy; clear h19 hx hy) | (go_at_call 20; refine (SM2.out _ _ _ O19.out HX19.out HY19.out).mono ?_; rintro _ w20 ⟨rfl, h20⟩; have O20 : Hid (One _ _ _ _ _) := h20; clear h20) | (go_at_call 22; refine (LN1.out _ O20.out).mono ?_; rintro _ wz ⟨rfl, hwz⟩; rw [hwz]; clear hwz) | go_in)
                go_wp2_with (first | (go_at_call 25; refine (CLR.out _ O20.out).mono ?_; rintro _ w21 ⟨rfl, h21⟩; have O21 : Hid (One _ _ _ _ _) := h21; clear h21) | (go_at_call 26; refine (CNT.out _ O21.out).mono ?_; rintro _ w22 ⟨rfl, h22⟩; have O22 : Hid (One _ _ _ _ _) := h22; clear h22) | (go_at_call 22; refine (LN0.out _ O22.out).mono ?_; rintro _ wz ⟨rfl, hwz⟩; rw [hwz]; clear hwz) | (go_at_call 21; refine (KL0.out _ O22.out).mono ?_; rintro _ w23 ⟨ea, ec, rfl, h23⟩; have O23 : Hid (One _ _ _ _ _) := h23; clear h23) | go_in)
                go_ret
                exact ⟨by first | rfl | (congr 2; simp), by rw [HB.out]; exact One.below O23.out⟩
end Go.Proofs.Ytjkkijeamcihiaa.lx
