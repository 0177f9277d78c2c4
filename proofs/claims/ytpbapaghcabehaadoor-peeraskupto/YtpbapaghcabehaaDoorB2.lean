import Derived.Test.YtpbapaghcabehaaDoorB1
import Derived.Test.YtpbapaghcabehaaDoorTj
namespace Go.Proofs.YtpbapaghcabehaaDoor.b2
open Go.RowKit Go.PlainAid Go.Shelf
open Go.Proofs.YtpbapaghcabehaaDoor.tb Go.Proofs.YtpbapaghcabehaaDoor.tc Go.Proofs.YtpbapaghcabehaaDoor.tj Go.Proofs.YtpbapaghcabehaaDoor.vb Go.Proofs.YtpbapaghcabehaaDoor.vc Go.Proofs.YtpbapaghcabehaaDoor.wa Go.Proofs.YtpbapaghcabehaaDoor.wb Go.Proofs.YtpbapaghcabehaaDoor.sb Go.Proofs.YtpbapaghcabehaaDoor.kp Go.Proofs.YtpbapaghcabehaaDoor.a1 Go.Proofs.YtpbapaghcabehaaDoor.a2 Go.Proofs.YtpbapaghcabehaaDoor.b1
set_option linter.unusedVariables false

-- a request's text, as far as so many hashes
def rqK (old : Int) (pf : List ByteArray) (k : Nat) : ByteArray := hdB old ++ nlB ++ flN ((pf.take k).map b64S)
theorem rqK_zero (old : Int) (pf : List ByteArray) : rqK old pf 0 = hdB old ++ nlB := by
  unfold rqK
  rw [List.take_zero, List.map_nil, flN, ByteArray.append_empty]
theorem rqK_succ (old : Int) (pf : List ByteArray) (k : Nat) (h : k < pf.length) : rqK old pf (k + 1) = rqK old pf k ++ (b64S (pf[k]'h) ++ nlB) := by
  unfold rqK
  rw [List.take_succ_eq_append_getElem h, List.map_append, List.map_cons, List.map_nil, flN_snoc]
  simp only [ByteArray.append_assoc]
theorem rqK_all (old : Int) (pf : List ByteArray) (note : ByteArray) : rqK old pf pf.length ++ (nlB ++ note) = rqX old pf note := by
  unfold rqK rqX
  rw [List.take_length]
theorem rqK_size (old : Int) (pf : List ByteArray) (hI : I64 old) (hb : pf.any badH = false) (hl : pf.length ≤ 63) (k : Nat) : (rqK old pf k).size ≤ 3000 := by
  have h1 := body_size (pf.take k) (by
    rw [List.any_eq_false] at hb ⊢
    exact fun x hx => hb x (List.mem_of_mem_take hx)) (by rw [List.length_take]; omega)
  have h2 := hd_size old hI
  unfold rqK
  rw [ByteArray.size_append, ByteArray.size_append, nl_size]
  omega
set_option maxHeartbeats 3200000 in
theorem askC (old : Int) (pf : List ByteArray) (note : ByteArray) (a : Option Addr) (c : Nat) (w : World) (hI : I64 old) (zn : note.size ≤ 2000000) (hr : Reads w (.slice a pf.length c) pf) (hz : pf.length ≤ 1000000000) (N : Hid (NumW w)) :
    Calls Tryd.prog 5 #[.agg #[.int .i64 old, .slice a pf.length c, .string note]] w fun e w' => e = .returned (.tuple #[.string (rqT old pf note), .int .i64 (rqE old pf)]) ∧ Below w.heap.size w w' := by
  have HR : Hid (Reads w (.slice a pf.length c) pf) := hr
  obtain ⟨n, HN⟩ : ∃ n, Hid (pf.length = n) := ⟨_, rfl⟩
  have hzn : n ≤ 1000000000 := by rw [← HN.out]; exact hz
  obtain ⟨W, HW⟩ : ∃ W, Hid (w.alloc (.cells #[.int .i64 old, .slice a pf.length c, .string note] 24) = W) := ⟨_, rfl⟩
  have BW : Hid (Below w.heap.size w W) := by rw [← HW.out]; exact (Below.refl _ _).alloc (Nat.le_refl _) _
  have zW : Hid (w.heap.size + 1 ≤ W.heap.size) := by show _ ≤ _; rw [← HW.out]; simp
  have SX : Hid (∀ w', Below (w.heap.size + 1) W w' → w'.cell? ⟨w.heap.size, 0, none⟩ = some (.int .i64 old) ∧ w'.cell? ⟨w.heap.size, 1, none⟩ = some (.slice a pf.length c) ∧ w'.cell? ⟨w.heap.size, 2, none⟩ = some (.string note)) := by
    rw [← HW.out]; exact fun w' h => box3 w w' _ _ _ _ h
  obtain ⟨p0, p1, p2⟩ := SX.out W (Below.refl _ _)
  have CW : Hid (Calls _ _ _ _ _) := writableC old pf note a c W hI (HR.out.later BW.out) hz
  obtain ⟨p, HP⟩ : ∃ p, Hid (w.heap.size = p) := ⟨_, rfl⟩
  have FIN : Hid (∀ w', Below (p + 1) W w' → Below w.heap.size w w') := fun w' h => BW.out.trans (h.mono (by rw [← HP.out]; omega))
  rw [HP.out] at p0 p1 p2 SX zW
  obtain ⟨E, HE⟩ : ∃ E, Hid (rqE old pf = E) := ⟨_, rfl⟩
  rw [HE.out] at CW ⊢
  by_cases hE : E = 0
  · obtain ⟨o0, o1, hl63, hbad⟩ := rqE_yes (HE.out.trans hE)
    have hX : rqT old pf note = rqX old pf note := rqT_yes (HE.out.trans hE)
    rw [hX, ← rqK_all old pf note]
    have HKZ : Hid (∀ k, (rqK old pf k).size ≤ 3000) := rqK_size old pf hI hbad hl63
    have HBD : Hid (∀ h ∈ pf, 1 ≤ h.size ∧ h.size ≤ 32) := any_bad hbad
    have zd := dec_size old hI
    have C3 : Hid (∀ w, NumW w → Calls _ _ _ _ _) := fun w => dec old hI w
    obtain ⟨d, HD⟩ : ∃ d, Hid (decS old = d) := ⟨_, rfl⟩
    obtain ⟨q, HQ⟩ : ∃ q, Hid ((⟨#[111, 108, 100, 32]⟩ : ByteArray) ++ d ++ (⟨#[10]⟩ : ByteArray) = q) := ⟨_, rfl⟩
    have hq : (⟨#[111, 108, 100, 32]⟩ : ByteArray) ++ d ++ (⟨#[10]⟩ : ByteArray) = q := HQ.out
    have HQK : Hid (rqK old pf 0 = q) := by show _ = _; rw [rqK_zero]; unfold hdB; rw [HD.out]; exact HQ.out
    have hqz : q.size = d.size + 5 := by
      rw [← hq, ByteArray.size_append, ByteArray.size_append]
      show 4 + d.size + 1 = _
      omega
    have z4 : (⟨#[111, 108, 100, 32]⟩ : ByteArray).size = 4 := rfl
    have z1 : (⟨#[10]⟩ : ByteArray).size = 1 := rfl
    obtain ⟨u, HU⟩ : ∃ u, Hid ((⟨#[10]⟩ : ByteArray) ++ note = u) := ⟨_, rfl⟩
    have hu : (⟨#[10]⟩ : ByteArray) ++ note = u := HU.out
    have huz : u.size = note.size + 1 := by rw [← hu, ByteArray.size_append, z1]; omega
    have HFN : Hid (rqK old pf pf.length ++ (nlB ++ note) = rqK old pf n ++ u) := by show _ = _; rw [HN.out, ← HU.out]; rfl
    rw [HFN.out]
    rw [HD.out] at C3 zd
    rw [HN.out] at p1 SX CW HR HW ⊢
    subst hE
    clear hX hbad hr hz hl63
    go_enter Tryd.func5, Tryd.ntmps5
    go_wp2_with fail
    rw [HP.out, HW.out]
    go_wp2_with fail
    refine CW.out.mono ?_
    rintro e w1 ⟨rfl, hb1⟩
    have B1 : Hid (Below (p + 1) W w1) := hb1.mono zW.out
    clear hb1 p0 p1 p2
    obtain ⟨p0, p1, p2⟩ := SX.out w1 B1.out
    obtain ⟨V, HV⟩ : ∃ V, Hid (w1.alloc (.cells #[.pointer none, .slice none 0 0] 41) = V) := ⟨_, rfl⟩
    have BV : Hid (Below w1.heap.size w1 V) := by rw [← HV.out]; exact (Below.refl _ _).alloc (Nat.le_refl _) _
    have FV : Hid (Bb w1.heap.size w1.heap.size ByteArray.empty V) := by rw [← HV.out]; exact Bb.fresh w1
    have ZB : Hid (p + 1 ≤ w1.heap.size) := Nat.le_trans zW.out B1.out.size
    have TO : Hid (∀ w', Below w1.heap.size w1 w' → Below (p + 1) W w') := fun w' h => B1.out.trans (h.mono ZB.out)
    clear p0 p1 p2
    obtain ⟨p0, p1, p2⟩ := SX.out V (TO.out V BV.out)
    rw [← HV.out] at p0
    clear p1 p2
    go_wp2_with fail
    rw [HV.out]
    clear p0
    refine (C3.out V (N.out.down (FIN.out V (TO.out V BV.out)))).mono ?_
    rintro e w2 ⟨rfl, hb2⟩
    have B2 : Hid (Below w1.heap.size w1 w2) := BV.out.trans (hb2.mono BV.out.size)
    have F2 : Hid (Bb w1.heap.size w1.heap.size ByteArray.empty w2) := FV.out.below hb2
    clear hb2
    go_wp2_with fail
    refine (wsC w1.heap.size w1.heap.size ByteArray.empty q w2 F2.out (by show 0 + q.size ≤ _; omega) B2.out.size).mono ?_
    rintro e w3 ⟨rfl, h3, hb3⟩
    have F3 : Hid (Bb w1.heap.size w1.heap.size q w3) := by rw [ByteArray.empty_append] at h3; exact h3
    have B3 : Hid (Below w1.heap.size w1 w3) := B2.out.trans hb3
    clear h3 hb3
    obtain ⟨p0, p1, p2⟩ := SX.out w3 (TO.out w3 B3.out)
    go_wp2
    go_loopw [22] (fun i wr => ∃ k : Nat, k ≤ n ∧ i = .int .i64 k ∧ Hid (Bb w1.heap.size w1.heap.size (rqK old pf k) wr ∧ Below w1.heap.size w1 wr)) (fun i _ => (n - intOf i).toNat)
    case atStart => exact ⟨0, by omega, rfl, by rw [HQK.out]; exact F3.out, B3.out⟩
    case round =>
      clear F2 B2 F3 B3 FV BV p0 p1 p2
      obtain ⟨k, hk, rfl, HK⟩ := hrel
      have FK : Hid (Bb w1.heap.size w1.heap.size (rqK old pf k) wr) := HK.out.1
      have BK : Hid (Below w1.heap.size w1 wr) := HK.out.2
      obtain ⟨p0, p1, p2⟩ := SX.out wr (TO.out wr BK.out)
      have zk := HKZ.out k
      by_cases hlt : k < n
      · have hlt' : (k : Int) < n := by omega
        have hkl : k < pf.length := by rw [HN.out]; exact hlt
        have hrr := rd_at (HR.out) k hkl
        obtain ⟨b, off, rfl, hbw, q1⟩ := hrr
        obtain ⟨x, HX⟩ : ∃ x, Hid (pf[k]'hkl = x) := ⟨_, rfl⟩
        rw [HX.out] at q1
        have c1 := ((FIN.out wr (TO.out wr BK.out)).cell (p := ⟨b, off + k, none⟩) hbw).trans q1
        have hxz := HBD.out x (by rw [← HX.out]; exact List.getElem_mem hkl)
        have HNX : Hid (rqK old pf (k + 1) = rqK old pf k ++ (b64S x ++ nlB)) := by show _ = _; rw [rqK_succ old pf k hkl, HX.out]
        have zs := b64S_size x
        have C4 : Hid (Calls _ _ _ _ _) := b64 x (by omega) wr
        obtain ⟨g, HG⟩ : ∃ g, Hid (b64S x = g) := ⟨_, rfl⟩
        rw [show str (b64L (bs x)) = g from HG.out] at C4
        rw [HG.out] at zs HNX
        obtain ⟨L, HL⟩ : ∃ L, Hid (g ++ (⟨#[10]⟩ : ByteArray) = L) := ⟨_, rfl⟩
        have hL : g ++ (⟨#[10]⟩ : ByteArray) = L := HL.out
        have hLz : L.size = g.size + 1 := by rw [← hL, ByteArray.size_append, z1]
        have HNY : Hid (rqK old pf (k + 1) = rqK old pf k ++ L) := by show _ = _; rw [HNX.out, ← HL.out]; rfl
        have hgz : g.size ≤ 44 := by omega
        clear q1 HX HNX zs hxz
        go_wp2_with fail
        refine C4.out.mono ?_
        rintro e w4 ⟨rfl, hb4⟩
        have F4 : Hid (Bb w1.heap.size w1.heap.size (rqK old pf k) w4) := FK.out.below hb4
        have B4 : Hid (Below w1.heap.size w1 w4) := BK.out.trans (hb4.mono BK.out.size)
        clear hb4
        go_wp2_with fail
        refine (wsC w1.heap.size w1.heap.size (rqK old pf k) L w4 F4.out (by omega) B4.out.size).mono ?_
        rintro e w5 ⟨rfl, h5, hb5⟩
        have F5 : Hid (Bb w1.heap.size w1.heap.size (rqK old pf (k + 1)) w5) := by rw [HNY.out]; exact h5
        have B5 : Hid (Below w1.heap.size w1 w5) := B4.out.trans hb5
        clear h5 hb5
        go_wp2
        go_roundw
        case rel => exact ⟨k + 1, by omega, by go_num, F5.out, B5.out⟩
        case measure => simp [intOf]; omega
      · have hlt' : ¬ (k : Int) < n := by omega
        obtain rfl : k = n := by omega
        go_wp2_with fail
        refine (wsC w1.heap.size w1.heap.size (rqK old pf k) u wr FK.out (by omega) BK.out.size).mono ?_
        rintro e w4 ⟨rfl, h4, hb4⟩
        have F4 : Hid (Bb w1.heap.size w1.heap.size (rqK old pf k ++ u) w4) := h4
        have B4 : Hid (Below w1.heap.size w1 w4) := BK.out.trans hb4
        clear h4 hb4
        go_wp2_with fail
        refine (sC w1.heap.size w1.heap.size (rqK old pf k ++ u) w4 F4.out B4.out.size).mono ?_
        rintro e w5 ⟨rfl, hb5⟩
        have B5 : Hid (Below w1.heap.size w1 w5) := B4.out.trans hb5
        clear hb5
        go_wp2
        go_ret2
        exact ⟨rfl, FIN.out w5 (TO.out w5 B5.out)⟩
  · have hX : rqT old pf note = ByteArray.empty := rqT_no (by rw [HE.out]; exact hE)
    rw [hX]
    rw [HN.out] at p1 CW HW ⊢
    clear hX hr hz
    go_enter Tryd.func5, Tryd.ntmps5
    go_wp2_with fail
    rw [HP.out, HW.out]
    go_wp2_with fail
    refine CW.out.mono ?_
    rintro e w1 ⟨rfl, hb1⟩
    have B1 : Hid (Below (p + 1) W w1) := hb1.mono zW.out
    clear hb1
    go_wp2
    go_ret2
    exact ⟨rfl, FIN.out w1 B1.out⟩
end Go.Proofs.YtpbapaghcabehaaDoor.b2
