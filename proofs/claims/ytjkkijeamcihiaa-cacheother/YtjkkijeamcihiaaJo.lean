import Derived.Test.YtjkkijeamcihiaaLs
import Derived.Test.YtjkkijeamcihiaaJn
namespace Go.Proofs.Ytjkkijeamcihiaa.jo
open Go.RowKit Go.PlainAid Go.Maps
open Go.Proofs.Ytjkkijeamcihiaa.cp Go.Proofs.Ytjkkijeamcihiaa.kp Go.Proofs.Ytjkkijeamcihiaa.ka Go.Proofs.Ytjkkijeamcihiaa.bn Go.Proofs.Ytjkkijeamcihiaa.ra Go.Proofs.Ytjkkijeamcihiaa.rb Go.Proofs.Ytjkkijeamcihiaa.rc Go.Proofs.Ytjkkijeamcihiaa.rd Go.Proofs.Ytjkkijeamcihiaa.re Go.Proofs.Ytjkkijeamcihiaa.rf Go.Proofs.Ytjkkijeamcihiaa.rg Go.Proofs.Ytjkkijeamcihiaa.rh Go.Proofs.Ytjkkijeamcihiaa.ri Go.Proofs.Ytjkkijeamcihiaa.rj Go.Proofs.Ytjkkijeamcihiaa.rk Go.Proofs.Ytjkkijeamcihiaa.sa Go.Proofs.Ytjkkijeamcihiaa.lz Go.Proofs.Ytjkkijeamcihiaa.la Go.Proofs.Ytjkkijeamcihiaa.lb Go.Proofs.Ytjkkijeamcihiaa.lc Go.Proofs.Ytjkkijeamcihiaa.ld Go.Proofs.Ytjkkijeamcihiaa.da Go.Proofs.Ytjkkijeamcihiaa.de Go.Proofs.Ytjkkijeamcihiaa.df Go.Proofs.Ytjkkijeamcihiaa.ls
open Go.Proofs.Ytjkkijeamcihiaa.lt (CD textsC)
open Go.Proofs.Ytjkkijeamcihiaa.jp (I T mp Nm tellI tell_mp tell_nm okI cntI cnt_mp)
open Go.Proofs.Ytjkkijeamcihiaa.jn (CI IO numbersC)
set_option linter.unusedVariables false
set_option linter.unusedSimpArgs false
theorem other_no (most : Int) (hp : most < 0 ∨ 4096 < most) (v : Value) (w : World) :
    Calls Try.prog 8 #[.int .i64 most, v] w fun e w' => e = .returned (.bool true) ∧ Below w.heap.size w w' := by
  have C1 : Hid (∀ w, Calls _ _ _ _ _) := fun w => Go.Proofs.Ytjkkijeamcihiaa.ik.newNo most hp w
  have C2 : Hid (∀ w, Calls _ _ _ _ _) := fun w => Go.Proofs.Ytjkkijeamcihiaa.rk.newNo most hp w
  have C3 : Hid (∀ w, Calls _ _ _ _ _) := fun w => rNewNo most hp w
  have HB : Hid (Below w.heap.size w w) := Below.refl _ _
  clear hp
  go_enter Try.func8, Try.ntmps8
  go_wp2_with (first | (go_at_call 31; refine (C1.out _).mono ?_; rintro _ wz ⟨rfl, hwz⟩; rw [hwz]; clear hwz) | (go_at_call 9; refine (C2.out _).mono ?_; rintro _ wz ⟨rfl, hwz⟩; rw [hwz]; clear hwz) | (go_at_call 29; refine (C3.out _).mono ?_; rintro _ wz ⟨rfl, hwz⟩; rw [hwz]; clear hwz) | go_in)
  go_ret
  exact ⟨rfl, HB.out⟩
theorem cnt_tell {s : I} (h : Nm s) {k : Int} (hk : okI k) (kd : Int) (v : ByteArray) : cntI (tellI s kd k v) ≤ cntI s + 1 := by
  have := (tell_cnt (mp s) kd k v).1
  rw [tell_mp h hk, cnt_mp, cnt_mp] at this
  exact this
theorem nm0 (p : Nat) : Nm (Go.Proofs.Ytjkkijeamcihiaa.ik.S0 p) := ⟨fun p hp => (by cases hp), fun p hp => (by cases hp)⟩
theorem ok0 : okI 0 := by decide
set_option maxRecDepth 8000 in
set_option maxHeartbeats 6400000 in
theorem other_yes (p : Nat) (hp : p ≤ 4096) (v : Value) (l : List Opc) (w : World) (hr : ReadsC w v l) (hw : ∀ o ∈ l, okI o.k) (hz : l.length * 32 ≤ 140737488351232) :
    Calls Try.prog 8 #[.int .i64 ((p : Nat) : Int), v] w fun e w' => e = .returned (.bool true) ∧ Below w.heap.size w w' := by
  obtain ⟨va, vc, hv⟩ : ∃ a c, v = .slice a l.length c := ⟨_, _, hr.choose_spec.choose_spec.1⟩
  have HRL : Hid (∀ w', Below w.heap.size w w' → ReadsC w' v l) := fun w' hb => rdC.keep (v := v) (l := l) hr (Kp.of_below (A := fun _ => False) hb) (fun _ _ _ e => e)
  have HWF : Hid (∀ o ∈ l, okI o.k) := hw
  have C1 : Hid (∀ w, Calls _ _ _ _ _) := fun w => Go.Proofs.Ytjkkijeamcihiaa.iz.cNew p hp w
  have C2 : Hid (∀ w, Calls _ _ _ _ _) := fun w => cNew p hp w
  have C3 : Hid (∀ w, Calls _ _ _ _ _) := fun w => dNew p hp w
  have hp' : (p : Int) ≤ 4096 := by omega
  have HU : Hid (One UnO w.heap.size () w w) := un0 w
  obtain ⟨N, HN⟩ : ∃ N, Hid (l.length = N) := ⟨_, rfl⟩
  rw [HN.out] at hv hz
  have hNb : (N : Int) ≤ 140737488351232 := by omega
  have HN62 : Hid (N < 4611686018427387000) := by show _ < _; omega
  subst hv
  clear hr hz hp hw
  unfold pt at *
  go_enter Try.func8, Try.ntmps8
  go_upto_region 2 with (first | (go_at_call 31; refine (C1.out _).mono ?_; rintro _ w1 ⟨rfl, hb, hpp, hf⟩; have O1 : Hid (One (pairO _ _) w.heap.size _ w w1) := One.put HU.out hpp hb hf; clear hb hpp hf) | go_in)
  go_upto_region 3 with (first | (go_at_call 9; refine (C2.out _).mono ?_; rintro _ w2 ⟨rfl, hb, hpp, hf⟩; have O2 : Hid (One (pairO _ _) w.heap.size _ w w2) := One.put O1.out hpp hb hf; clear hb hpp hf) | go_in)
  go_upto_region 4 with (first | (go_at_call 29; refine (C3.out _).mono ?_; rintro _ w3 ⟨rfl, hb, hpp, hf⟩; have O3 : Hid (One (pairO _ _) w.heap.size _ w w3) := One.put O2.out hpp hb hf; clear hb hpp hf) | go_in)
  go_upto_region 5 with (first | (go_at_call 29; refine (C3.out _).mono ?_; rintro _ w4 ⟨rfl, hb, hpp, hf⟩; have O4 : Hid (One (pairO _ _) w.heap.size _ w w4) := One.put O3.out hpp hb hf; clear hb hpp hf) | go_in)
  obtain ⟨ga, HGA⟩ : ∃ g, Hid (w.heap.size + 1 = g) := ⟨_, rfl⟩
  obtain ⟨ra, HRA⟩ : ∃ g, Hid (w2.heap.size = g) := ⟨_, rfl⟩
  rw [HGA.out, HRA.out]
  obtain ⟨gb, HGB⟩ : ∃ g, Hid (w1.heap.size + 1 = g) := ⟨_, rfl⟩
  obtain ⟨rb, HRB⟩ : ∃ g, Hid (w3.heap.size = g) := ⟨_, rfl⟩
  rw [HGB.out, HRB.out]
  have OO : Hid (One (pairO (CI ga w.heap.size ra) (CD gb w1.heap.size rb)) w.heap.size ((Go.Proofs.Ytjkkijeamcihiaa.ik.S0 p, mp (Go.Proofs.Ytjkkijeamcihiaa.ik.S0 p)), (S0 p, S0 p)) w w4) := by
    rw [← HGA.out, ← HRA.out, ← HGB.out, ← HRB.out]
    obtain ⟨F, ⟨F1, F2, ⟨F3, F4, ⟨F5, F6, ⟨F7, F8, g1, g2, g3, g4⟩, g5, g6, g7⟩, g8, g9, g10⟩, g11, g12, g13⟩, g14, g15, g16⟩ := O4.out
    exact four ⟨F, ⟨F1, F2, ⟨F3, F4, ⟨F8, F6, g2, g5, fun k hk => g6 k ((g4 k).2 (.inr hk)), fun k => ⟨fun hk => (by rcases (g7 k).1 hk with h | h; rcases (g4 k).1 h with h | h; exact absurd h (g1 k); exact .inl h; exact .inr h), fun hk => (g7 k).2 (hk.imp (fun h => (g4 k).2 (.inr h)) id)⟩⟩, g8, g9, g10⟩, g11, g12, g13⟩, g14, g15, g16⟩
  obtain ⟨ma, HMA⟩ : ∃ g, Hid (w.heap.size = g) := ⟨_, rfl⟩
  obtain ⟨mb, HMB⟩ : ∃ g, Hid (w1.heap.size = g) := ⟨_, rfl⟩
  obtain ⟨B, HB⟩ : ∃ g, Hid (w.heap.size = g) := ⟨_, rfl⟩
  rw [HMB.out] at OO
  have OO : Hid (One (pairO (CI ga ma ra) (CD gb mb rb)) B ((Go.Proofs.Ytjkkijeamcihiaa.ik.S0 p, mp (Go.Proofs.Ytjkkijeamcihiaa.ik.S0 p)), (S0 p, S0 p)) w w4) := by have := OO.out; rw [HMA.out] at this; rw [← HB.out, HMA.out]; exact this
  clear C1 C2 C3 HU O1 O2 O3 O4
  go_wp2_with fail
  go_loopw [9] (fun iv wr => ∃ (i : Nat) (sa : I) (sb : St), i ≤ N ∧ iv = .int .i64 i ∧ Hid (One (pairO (CI ga ma ra) (CD gb mb rb)) B ((sa, mp sa), (sb, sb)) w wr) ∧ Hid (cntI sa ≤ i ∧ cntS sb ≤ i ∧ Nm sa)) (fun iv _ => (N - intOf iv).toNat)
  case atStart => exact ⟨0, Go.Proofs.Ytjkkijeamcihiaa.ik.S0 p, S0 p, Nat.zero_le _, rfl, OO, Nat.le_refl _, Nat.le_refl _, nm0 p⟩
  case round =>
    obtain ⟨i, sa, sb, hiN, rfl, HO, HS⟩ := hrel
    have hN62 := HN62.out
    obtain ⟨h1, h2, hnm⟩ := HS.out
    have ca : sa.hits + sa.misses + sa.gone ≤ i := h1
    have cb : sb.hits + sb.misses + sb.gone ≤ i := h2
    by_cases hlt : i < N
    · have hlt' : (i : Int) < N := by omega
      have hil : i < l.length := by rw [HN.out]; exact hlt
      obtain ⟨o, ho⟩ : ∃ o, l[i]? = some o := ⟨_, List.getElem?_eq_getElem hil⟩
      have hok : okI o.k := HWF.out o (List.mem_of_getElem? ho)
      have RD : Hid (∀ w', Below w.heap.size w w' → ∃ b off, va = some ⟨b, off, none⟩ ∧ w'.cell? ⟨b, off + i * 3, none⟩ = some (.int .i64 o.kind) ∧ w'.cell? ⟨b, off + i * 3 + 1, none⟩ = some (.int .i64 o.k) ∧ w'.cell? ⟨b, off + i * 3 + 2, none⟩ = some (.string o.v)) := by
        intro w' hb
        obtain ⟨a', c', e', h0 | ⟨b, off, e2, hc⟩⟩ := HRL.out w' hb
        · omega
        · have e3 := (Value.slice.inj e').1
          exact ⟨b, off, by rw [e3]; exact e2, hc i o ho⟩
      have HBL : Hid (∀ {x} w', One (pairO (CI ga ma ra) (CD gb mb rb)) B x w w' → Below w.heap.size w w') := fun w' h => by rw [HB.out]; exact One.below h
      obtain ⟨b, off, hva, d0, d1, d2⟩ := RD.out wr (HBL.out wr HO.out)
      have RD2 : Hid (∀ {x} w', One (pairO (CI ga ma ra) (CD gb mb rb)) B x w w' → w'.cell? ⟨b, off + i * 3, none⟩ = some (.int .i64 o.kind) ∧ w'.cell? ⟨b, off + i * 3 + 1, none⟩ = some (.int .i64 o.k) ∧ w'.cell? ⟨b, off + i * 3 + 2, none⟩ = some (.string o.v)) := fun w' h => by
        obtain ⟨b', off', e, qq⟩ := RD.out w' (HBL.out w' h)
        rw [hva] at e
        have e := Option.some.inj e
        rw [show b = b' from congrArg Addr.block e, show off = off' from congrArg Addr.off e]
        exact qq
      obtain ⟨kd, hkd⟩ : ∃ x, o.kind = x := ⟨_, rfl⟩
      obtain ⟨kk, hkk⟩ : ∃ x, o.k = x := ⟨_, rfl⟩
      obtain ⟨vv, hvv⟩ : ∃ x, o.v = x := ⟨_, rfl⟩
      rw [hkd, hkk, hvv] at RD2
      rw [hkd] at d0
      rw [hkk] at d1 hok
      rw [hvv] at d2
      obtain ⟨ta, HTA⟩ : ∃ t, Hid (tellI sa kd kk vv = t) := ⟨_, rfl⟩
      obtain ⟨tb, HTB⟩ : ∃ t, Hid (tellS sb kd kk vv = t) := ⟨_, rfl⟩
      have CA : Hid (Calls Try.prog 32 #[.pointer (some ⟨ga, 0, none⟩), .pointer (some ⟨ra, 0, none⟩), .agg #[.int .i64 kd, .int .i64 kk, .string vv]] wr fun e w2 => e = .returned (.bool true) ∧ One (pairO (CI ga ma ra) (CD gb mb rb)) B ((ta, mp ta), (sb, sb)) w w2) := by
        rw [← HTA.out]
        exact One.step HO.out (lift1 (fun F hp => numbersC kd kk hok vv hp hnm (by omega) (by omega) (by omega)))
      have CB : Hid (∀ w', One (pairO (CI ga ma ra) (CD gb mb rb)) B ((ta, mp ta), (sb, sb)) w w' → Calls Try.prog 30 #[.pointer (some ⟨gb, 0, none⟩), .pointer (some ⟨rb, 0, none⟩), .agg #[.int .i64 kd, .int .i64 kk, .string vv]] w' fun e w2 => e = .returned (.bool true) ∧ One (pairO (CI ga ma ra) (CD gb mb rb)) B ((ta, mp ta), (tb, tb)) w w2) := fun w' h => by
        rw [← HTB.out]
        exact One.step h (lift2 (fun F hp => textsC kd kk vv hp (by omega) (by omega) (by omega)))
      have k1 := cnt_tell hnm hok kd vv
      have k2 := (tell_cnt sb kd kk vv).1
      have k3 := tell_nm hnm hok kd vv
      rw [HTA.out] at k1 k3
      rw [HTB.out] at k2
      have HK : Hid (cntI ta ≤ i + 1 ∧ cntS tb ≤ i + 1 ∧ Nm ta) := ⟨by omega, by omega, k3⟩
      subst hva
      clear RD HRL ho hkd hkk hvv h1 h2 ca cb k1 k2 k3 HS HTA HTB hil HBL OO hnm hok hN62
      go_wp2_with (first | (go_at_call 32; refine CA.out.mono ?_; rintro _ w5 ⟨rfl, h5⟩; have H5 : Hid (One _ _ _ _ _) := h5; obtain ⟨q0, q1, q2⟩ := RD2.out _ h5; clear h5 d0 d1 d2) | (go_at_call 30; refine (CB.out _ H5.out).mono ?_; rintro _ w6 ⟨rfl, h6⟩; have H6 : Hid (One _ _ _ _ _) := h6; clear h6) | go_in)
      go_roundw
      case rel => exact ⟨i + 1, ta, tb, by omega, by go_num, H6, HK.out⟩
      case measure => simp [intOf]; omega
    · have hlt' : ¬ (i : Int) < N := by omega
      have NA : Hid (∀ kd, (kd = 7 ∨ kd = 8) → ∀ w', One (pairO (CI ga ma ra) (CD gb mb rb)) B ((sa, mp sa), (sb, sb)) w w' → Calls Try.prog 32 #[.pointer (some ⟨ga, 0, none⟩), .pointer (some ⟨ra, 0, none⟩), .agg #[.int .i64 kd, .int .i64 0, .string ⟨#[]⟩]] w' fun e w2 => e = .returned (.bool true) ∧ One (pairO (CI ga ma ra) (CD gb mb rb)) B ((sa, mp sa), (sb, sb)) w w2) := fun kd hkd w' h => by
        have e : tellI sa kd 0 ⟨#[]⟩ = sa := by rcases hkd with rfl | rfl <;> rfl
        have := One.step h (lift1 (fun F hp => numbersC kd 0 ok0 ⟨#[]⟩ hp hnm (by omega) (by omega) (by omega)))
        rw [e] at this
        exact this
      have NB : Hid (∀ kd, (kd = 7 ∨ kd = 8) → ∀ w', One (pairO (CI ga ma ra) (CD gb mb rb)) B ((sa, mp sa), (sb, sb)) w w' → Calls Try.prog 30 #[.pointer (some ⟨gb, 0, none⟩), .pointer (some ⟨rb, 0, none⟩), .agg #[.int .i64 kd, .int .i64 0, .string ⟨#[]⟩]] w' fun e w2 => e = .returned (.bool true) ∧ One (pairO (CI ga ma ra) (CD gb mb rb)) B ((sa, mp sa), (sb, sb)) w w2) := fun kd hkd w' h => by
        have e : tellS sb kd 0 ⟨#[]⟩ = sb := by rcases hkd with rfl | rfl <;> rfl
        have := One.step h (lift2 (fun F hp => textsC kd 0 ⟨#[]⟩ hp (by omega) (by omega) (by omega)))
        rw [e] at this
        exact this
      clear HS OO HRL h1 h2 hnm ca cb hN62
      go_wp2_with (first | (go_at_call 32; refine (NA.out _ (by first | exact .inl rfl | exact .inr rfl) _ HO.out).mono ?_; rintro _ w5 ⟨rfl, h5⟩; clear HO; have HO : Hid (One _ _ _ _ _) := h5; clear h5) | (go_at_call 30; refine (NB.out _ (by first | exact .inl rfl | exact .inr rfl) _ HO.out).mono ?_; rintro _ w5 ⟨rfl, h5⟩; clear HO; have HO : Hid (One _ _ _ _ _) := h5; clear h5) | go_in)
      go_ret
      exact ⟨rfl, by rw [HB.out]; exact One.below HO.out⟩
theorem other_walk (a : Int) (wa : (Lit.int .i64 a).wf = true) (v : Value) (l : List Opc) (w : World) (hr : ReadsC w v l) (hw : ∀ o ∈ l, okI o.k) (hno : v.ownBlock = none → v = .slice none 0 0) (hz : l.length * 32 ≤ 140737488351232) :
    Calls Try.prog 8 #[.int .i64 a, v] w fun e w' => e = .returned (.bool true) ∧ Below w.heap.size w w' := by
  by_cases h1 : 0 ≤ a ∧ a ≤ 4096
  · obtain ⟨p, rfl⟩ : ∃ p : Nat, a = p := ⟨a.toNat, by omega⟩
    exact other_yes p (by omega) v l w hr hw hz
  · exact other_no a (by omega) v w
end Go.Proofs.Ytjkkijeamcihiaa.jo
