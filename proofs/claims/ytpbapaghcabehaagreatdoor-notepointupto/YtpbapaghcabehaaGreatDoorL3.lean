import Derived.Test.YtpbapaghcabehaaGreatDoorM2
import Derived.Deep.RegionHeld3
import Derived.Deep.DeepCutAuto
import Derived.Test.YtpbapaghcabehaaGreatDoorH2
import Derived.Deep.AppendLies
import Derived.Test.YtpbapaghcabehaaGreatDoorL2
import Derived.Maps.AppendAt
namespace Go.Proofs.YtpbapaghcabehaaGreatDoor.w4
open Go.RowKit Go.PlainAid
open Go.Proofs.YtpbapaghcabehaaGreatDoor.mo Go.Proofs.YtpbapaghcabehaaGreatDoor.nh Go.Proofs.YtpbapaghcabehaaGreatDoor.tb Go.Proofs.YtpbapaghcabehaaGreatDoor.tc Go.Proofs.YtpbapaghcabehaaGreatDoor.tj Go.Proofs.YtpbapaghcabehaaGreatDoor.n1 Go.Proofs.YtpbapaghcabehaaGreatDoor.n3 Go.Proofs.YtpbapaghcabehaaGreatDoor.n4 Go.Proofs.YtpbapaghcabehaaGreatDoor.o1 Go.Proofs.YtpbapaghcabehaaGreatDoor.o3 Go.Proofs.YtpbapaghcabehaaGreatDoor.kp Go.Proofs.YtpbapaghcabehaaGreatDoor.w1 Go.Proofs.YtpbapaghcabehaaGreatDoor.w2 Go.Proofs.YtpbapaghcabehaaGreatDoor.w3
open Go.Proofs.YtpbapaghcabehaaGreatDoor.ka (new_text)
set_option linter.unusedVariables false
set_option maxRecDepth 4000

end Go.Proofs.YtpbapaghcabehaaGreatDoor.w4

namespace Go.Proofs.YtpbapaghcabehaaGreatDoor.w5
open Go.RowKit Go.PlainAid
open Go.Proofs.YtpbapaghcabehaaGreatDoor.mo Go.Proofs.YtpbapaghcabehaaGreatDoor.nh Go.Proofs.YtpbapaghcabehaaGreatDoor.tb Go.Proofs.YtpbapaghcabehaaGreatDoor.tc Go.Proofs.YtpbapaghcabehaaGreatDoor.tj Go.Proofs.YtpbapaghcabehaaGreatDoor.n1 Go.Proofs.YtpbapaghcabehaaGreatDoor.n3 Go.Proofs.YtpbapaghcabehaaGreatDoor.n4 Go.Proofs.YtpbapaghcabehaaGreatDoor.o1 Go.Proofs.YtpbapaghcabehaaGreatDoor.o3 Go.Proofs.YtpbapaghcabehaaGreatDoor.o5 Go.Proofs.YtpbapaghcabehaaGreatDoor.o6 Go.Proofs.YtpbapaghcabehaaGreatDoor.kp Go.Proofs.YtpbapaghcabehaaGreatDoor.p2 Go.Proofs.YtpbapaghcabehaaGreatDoor.v2 Go.Proofs.YtpbapaghcabehaaGreatDoor.w1 Go.Proofs.YtpbapaghcabehaaGreatDoor.w2 Go.Proofs.YtpbapaghcabehaaGreatDoor.w3
set_option linter.unusedVariables false
set_option maxRecDepth 4000

-- the keys that sign
def firstB : ByteArray := ⟨#[102, 105, 114, 115, 116]⟩
def sB : ByteArray := ⟨#[115]⟩
def newN (o : List Ky) (x : ByteArray) : Bool := o.all (fun y => !eqB y.1 x)
def sgnF : List Ky → List Ky → List Ky
  | o, [] => o
  | o, k :: ks => if o.length < 8 then sgnF (if newN o (nmd k.1) = true then o ++ [(nmd k.1, k.2)] else o) ks else o
def sgn (ks : List Ky) : List Ky := sgnF [(firstB, sB)] ks
theorem sgn_step (ks : List Ky) (k : Nat) (h : k < ks.length) (o : List Ky) (hl : o.length < 8) : sgnF o (ks.drop k) = sgnF (if newN o (nmd (ks[k]'h).1) = true then o ++ [(nmd (ks[k]'h).1, (ks[k]'h).2)] else o) (ks.drop (k + 1)) := by
  rw [List.drop_eq_getElem_cons h, sgnF, if_pos hl]
theorem sgn_end (ks o : List Ky) : sgnF o (ks.drop ks.length) = o := by rw [List.drop_of_length_le (Nat.le_refl _), sgnF]
theorem sgn_full (ks o : List Ky) (h : ¬ o.length < 8) : sgnF o ks = o := by
  cases ks with
  | nil => rfl
  | cons k ks => rw [sgnF, if_neg h]
theorem new_iff {o : List Ky} {x : ByteArray} : newN o x = true ↔ ∀ y ∈ o, y.1 ≠ x := by
  unfold newN eqB
  simp
theorem new_snoc (l : List Ky) (y : Ky) (x : ByteArray) : newN (l ++ [y]) x = (newN l x && !eqB y.1 x) := by
  unfold newN
  rw [List.all_append]
  simp
theorem sgn_good : ∀ (ks o : List Ky), KGood o → 1 ≤ o.length → o.length ≤ 8 → KGood (sgnF o ks) ∧ 1 ≤ (sgnF o ks).length ∧ (sgnF o ks).length ≤ 8
  | [], o, h, h1, h8 => ⟨h, h1, h8⟩
  | k :: ks, o, h, h1, h8 => by
    rw [sgnF]
    split
    · rename_i hl
      split
      · rename_i hn
        refine sgn_good ks _ ⟨?_, fun y hy => ?_⟩ (by simp) (by simp; omega)
        · unfold Ds
          rw [List.pairwise_append]
          exact ⟨h.1, List.pairwise_singleton _ _, fun a ha b hb => by rw [List.mem_singleton.1 hb]; exact new_iff.1 hn a ha⟩
        · rcases List.mem_append.1 hy with hy | hy
          · exact h.2 y hy
          · rw [List.mem_singleton.1 hy]; exact nm_nmd _
      · exact sgn_good ks o h h1 h8
    · exact ⟨h, h1, h8⟩
theorem sgn_ok (ks : List Ky) : KGood (sgn ks) ∧ 1 ≤ (sgn ks).length ∧ (sgn ks).length ≤ 8 := by
  refine sgn_good ks _ ⟨List.pairwise_singleton _ _, fun k hk => ?_⟩ (by simp) (by simp)
  rw [List.mem_singleton.1 hk]
  show nm firstB = true
  decide +kernel
theorem sgn_bound (B : Nat) : ∀ (ks o : List Ky), (∀ k ∈ ks, k.2.size ≤ B) → (∀ k ∈ o, k.2.size ≤ B) → ∀ k ∈ sgnF o ks, k.2.size ≤ B
  | [], o, _, h => h
  | k :: ks, o, h1, h => by
    rw [sgnF]
    split
    · refine sgn_bound B ks _ (fun x hx => h1 x (by simp [hx])) (fun x hx => ?_)
      split at hx
      · rcases List.mem_append.1 hx with hx | hx
        · exact h x hx
        · rw [List.mem_singleton.1 hx]; exact h1 k (by simp)
      · exact h x hx
    · exact h
theorem sgn_sizes {ks : List Ky} (h : ∀ k ∈ ks, k.2.size ≤ 140737488351232) : ∀ k ∈ sgn ks, k.1.size ≤ 140737488351232 ∧ k.2.size ≤ 140737488351232 := by
  intro k hk
  have h1 := (sgn_ok ks).1.2 k hk
  have h2 := sgn_bound 140737488351232 ks [(firstB, sB)] h (fun x hx => by rw [List.mem_singleton.1 hx]; show sB.size ≤ _; decide) k hk
  have h3 := t5.nm_size h1
  omega
-- the box of a new key
def Xk (w wx : World) (g : Nat) (a b : ByteArray) : Prop := Below w.heap.size w wx ∧ w.heap.size ≤ g ∧ wx.heap[g]? = some (.cells #[.string a, .string b] 77 (0, 0))
theorem xk_alloc {w w' : World} {a b : ByteArray} (h : Below w.heap.size w w') : Xk w (w'.alloc (.cells #[.string a, .string b] 77)) w'.heap.size a b := ⟨h.alloc h.size _, h.size, heap_alloc_new _ _⟩
theorem xk_set {w w' : World} {a b x y : ByteArray} (h : Below w.heap.size w w') (hz : w'.heap[w.heap.size]? = some (.cells #[.string x, .string y] 77 (0, 0))) : Xk w ((w'.setCell ⟨w.heap.size, 0, none⟩ (.string a)).setCell ⟨w.heap.size, 1, none⟩ (.string b)) w.heap.size a b := by
  refine ⟨(h.setCell (p := ⟨w.heap.size, 0, none⟩) (Nat.le_refl _) _).setCell (p := ⟨w.heap.size, 1, none⟩) (Nat.le_refl _) _, Nat.le_refl _, ?_⟩
  have e := heap_setCell_same w' w.heap.size 0 _ _ (.string a) hz
  exact heap_setCell_same _ w.heap.size 1 _ _ (.string b) e
def Hb2 (w w' : World) : Prop := Below w.heap.size w w'
theorem Hb2.drew (w : World) : Hb2 w w.drew := Go.Proofs.YtpbapaghcabehaaGreatDoor.tj.below_dN (Below.refl _ _) 1
theorem Hb2.alloc {w w' : World} (h : Hb2 w w') (o : Obj) : Hb2 w (w'.alloc o) := Below.alloc h h.size _
theorem Hb2.on {w w' w'' : World} (h : Hb2 w w') (hb : Below w'.heap.size w' w'') : Hb2 w w'' := Below.trans h (hb.mono (Below.size h))
theorem Hb2.set {w w' : World} (h : Hb2 w w') {b off : Nat} (hb : w.heap.size ≤ b) (x : Value) : Hb2 w (w'.setCell ⟨b, off, none⟩ x) := Below.setCell (p := ⟨b, off, none⟩) h hb x
theorem Hb2.cell {w w' : World} (h : Hb2 w w') {p : Addr} {v : Value} (hc : w.cell? p = some v) : w'.cell? p = some v := (Below.cell h (World.block_lt_of_cell? _ _ hc)).trans hc
set_option maxHeartbeats 6400000 in
theorem signersC (v : Value) (ks : List Ky) (w : World) (hr : ReadsY w v ks) (hz : ks.length ≤ 4398046511104) (hs : ∀ k ∈ ks, k.1.size ≤ 140737488351232 ∧ k.2.size ≤ 140737488351232) :
    Calls Tryz.prog 13 #[v] w fun e w' => (∃ v', e = .returned v' ∧ Lk w.heap.size v' (sgn ks) w') ∧ Below w.heap.size w w' := by
  obtain ⟨i0, hi0, hi1, hi2, hi3⟩ := info_parts infoY
  have HI : Hid (Tryz.prog.info? 77 = some i0 ∧ i0.zero = some (.agg #[.string ⟨#[]⟩, .string ⟨#[]⟩]) ∧ i0.size = 2 ∧ i0.bytes = 32) := ⟨hi0, hi1, hi2, hi3⟩
  clear hi0 hi1 hi2 hi3
  obtain ⟨a, c, rfl, _⟩ := id hr
  have HR : Hid (ReadsY w (.slice a ks.length c) ks) := hr
  have HS : Hid _ := hs
  obtain ⟨n, HN⟩ : ∃ n, Hid (ks.length = n) := ⟨_, rfl⟩
  obtain ⟨R, HRR⟩ : ∃ R, Hid (sgn ks = R) := ⟨_, rfl⟩
  have HR0 : Hid (sgnF [(firstB, sB)] (ks.drop 0) = R) := by show _ = _; rw [← HRR.out]; rfl
  have C1 : Hid (∀ s : ByteArray, s.size ≤ 140737488351232 → ∀ w, Calls _ _ _ _ _) := fun s h w => namedC s h w
  rw [HN.out] at hz ⊢
  rw [HRR.out]
  clear hr hs HRR
  have HL0 : Hid (Lk w.heap.size (.slice (some ⟨w.heap.size, 0, none⟩) 1 1) [(firstB, sB)] (w.alloc (.cells #[.string firstB, .string sB] 77))) := by
    refine ⟨rfl, .inr ⟨w.heap.size, 1, #[.string firstB, .string sB], rfl, Nat.le_refl _, heap_alloc_new _ _, Nat.le_refl _, by decide, rfl, rfl⟩⟩
  have HB0 : Hid (Below w.heap.size w (w.alloc (.cells #[.string firstB, .string sB] 77))) := (Below.refl _ _).alloc (Nat.le_refl _) _
  go_enter Tryz.func13, Tryz.ntmps13
  go_wp2
  go_loopw [3, 4] (fun ov iv wr => ∃ (k : Nat) (o : List Ky), k ≤ n ∧ 1 ≤ o.length ∧ o.length ≤ 8 ∧ iv = .int .i64 k ∧ Hid (Lk w.heap.size ov o wr ∧ Below w.heap.size w wr ∧ sgnF o (ks.drop k) = R)) (fun _ iv _ => (n - intOf iv).toNat)
  case atStart => exact ⟨0, [(firstB, sB)], by omega, by simp, by simp, rfl, HL0.out, HB0.out, HR0.out⟩
  case round =>
    obtain ⟨k, o, hk, hl1, hl8, rfl, HH⟩ := hrel
    obtain ⟨oa, oc, hv⟩ := own_form HH.out.1
    subst hv
    obtain ⟨m, HM⟩ : ∃ m, Hid (o.length = m) := ⟨_, rfl⟩
    have HO : Hid (wr.ownsRow w.heap.size 77 2 (.slice oa m oc) m (kcs o)) := by have := HH.out.1; unfold Lk at this; rw [HM.out] at this; exact this
    have HB : Hid (Below w.heap.size w wr) := HH.out.2.1
    have HA : Hid (sgnF o (ks.drop k) = R) := HH.out.2.2
    have hm1 : 1 ≤ m := by rw [← HM.out]; exact hl1
    have hm8 : m ≤ 8 := by rw [← HM.out]; exact hl8
    rw [HM.out]
    clear HH hl1 hl8
    by_cases hlt : k < n ∧ m < 8
    · obtain ⟨hlt, hm⟩ := hlt
      have hlt' : (k : Int) < n := by omega
      have hm' : (m : Int) < 8 := by omega
      have hkl : k < ks.length := by rw [HN.out]; exact hlt
      obtain ⟨y, HY⟩ : ∃ y, Hid (ks[k]'hkl = y) := ⟨_, rfl⟩
      have HT : Hid (sgnF (if newN o (nmd y.1) = true then o ++ [(nmd y.1, y.2)] else o) (ks.drop (k + 1)) = R) := by
        show _ = _
        rw [← HA.out, sgn_step ks k hkl o (by rw [HM.out]; exact hm), HY.out]
      have hyz : y.1.size ≤ 140737488351232 ∧ y.2.size ≤ 140737488351232 := by rw [← HY.out]; exact HS.out _ (List.getElem_mem hkl)
      obtain ⟨b, off, ha, hbw, c1, c2⟩ := (HR.out.later HB.out).at k y (by rw [List.getElem?_eq_getElem hkl, HY.out])
      subst ha
      obtain ⟨kn, kx⟩ := y
      simp only at c1 c2 hyz HT
      have C2 : Hid (∀ w, Calls _ _ _ _ _) := C1.out kn hyz.1
      obtain ⟨N, HNN⟩ : ∃ N, Hid (nmd kn = N) := ⟨_, rfl⟩
      rw [HNN.out] at C2 HT
      have hNz : N.size ≤ 140737488351232 := by rw [← HNN.out]; have := t5.nm_size (nm_nmd kn); omega
      have S4 : Hid (∀ w', Hb2 wr w' → Hb2 wr w' ∧ w'.cell? ⟨b, off + k * 2, none⟩ = some (.string kn) ∧ w'.cell? ⟨b, off + k * 2 + 1, none⟩ = some (.string kx)) := fun w' h => ⟨h, h.cell c1, h.cell c2⟩
      clear HA HNN
      go_upto_region 5 with fail
      go_cut [5] from 10 to 54 (fun cc wx => ∃ g, cc = .pointer (some ⟨g, 0, none⟩) ∧ Hid (Xk wr wx g N kx))
      case first =>
        go_region_held3 (fun w' => Hb2 wr w' ∧ w'.cell? ⟨b, off + k * 2, none⟩ = some (.string kn) ∧ w'.cell? ⟨b, off + k * 2 + 1, none⟩ = some (.string kx)) (first | exact S4.out _ (Hb2.drew _) | exact S4.out _ (Hb2.alloc (And.left (by assumption)) _) | exact S4.out _ (Hb2.on (And.left (by assumption)) hb') | exact S4.out _ (Hb2.alloc HW.out _) | exact S4.out _ (Hb2.set (Hb2.set HW.out (Nat.le_refl _) _) (Nat.le_refl _) _)) ((go_at_call 10; refine (C2.out _).mono ?_; rintro e w' ⟨rfl, hb'⟩; have HW : Hid (Hb2 wr w') := Hb2.on (And.left (by assumption)) hb'; try (have Z0 : w'.heap[wr.heap.size]? = some (.cells #[.string ⟨#[]⟩, .string ⟨#[]⟩] 77 (0, 0)) := (hb'.block wr.heap.size (by simp)).trans (heap_alloc_new wr.drew _); have z0 := cell_of_row _ _ 0 _ _ _ Z0; have z1 := cell_of_row _ _ 1 _ _ _ Z0; have f0 := frozen_of_row w' wr.heap.size 0 _ _ Z0; have f1 := frozen_of_row w' wr.heap.size 1 _ _ Z0; have HZ0 : Hid (w'.heap[wr.heap.size]? = some (.cells #[.string ⟨#[]⟩, .string ⟨#[]⟩] 77 (0, 0))) := Z0; clear Z0)))
        all_goals
          go_wp2
          go_meet
          first
          | exact ⟨_, rfl, xk_alloc HW.out⟩
          | exact ⟨_, rfl, xk_set HW.out HZ0.out⟩
      case rest =>
        obtain ⟨g, rfl, HX⟩ := hcut
        have HG : Hid (wc.heap[g]? = some (.cells #[.string N, .string kx] 77 (0, 0))) := HX.out.2.2
        have BX : Hid (Below wr.heap.size wr wc) := HX.out.1
        have HOc : Hid (wc.ownsRow w.heap.size 77 2 (.slice oa m oc) m (kcs o)) := own_kp HO.out (Kp.of_below (A := fun _ => False) BX.out) (fun _ _ e => e)
        have BWc : Hid (Below w.heap.size w wc) := HB.out.trans (BX.out.mono HB.out.size)
        obtain ⟨ob, rfl⟩ : ∃ ob, oa = some ⟨ob, 0, none⟩ := by
          rcases HOc.out.2 with ⟨e, h0⟩ | ⟨g', cap, cur, e, _⟩
          · omega
          · injection e with e1 _ _
            exact ⟨g', e1⟩
        have HLK : Hid (Lk w.heap.size (.slice (some ⟨ob, 0, none⟩) m oc) o wc) := by show _; unfold Lk; rw [HM.out]; exact HOc.out
        have hmc : m ≤ oc := by have := HLK.out.cells.2.1; rw [HM.out] at this; exact this
        have HOB : Hid (ob < wc.heap.size ∧ g < wc.heap.size) := ⟨HLK.out.cells.2.2.1, (Array.getElem?_eq_some_iff.1 HG.out).1⟩
        have HCE : Hid (∀ wi, Below wc.heap.size wc wi → (∀ (j : Nat) (p : Ky), o[j]? = some p → wi.cell? ⟨ob, j * 2, none⟩ = some (.string p.1)) ∧ wi.cell? ⟨g, 0, none⟩ = some (.string N) ∧ wi.cell? ⟨g, 1, none⟩ = some (.string kx)) := fun wi h => ⟨fun j p hj => (h.cell (p := ⟨ob, j * 2, none⟩) HOB.out.1).trans (HLK.out.cells.2.2.2.2.2 j p hj).1, by rw [h.cell (p := ⟨g, 0, none⟩) HOB.out.2, cell_of_row _ _ 0 _ _ _ HG.out]; rfl, by rw [h.cell (p := ⟨g, 1, none⟩) HOB.out.2, cell_of_row _ _ 1 _ _ _ HG.out]; rfl⟩
        clear HX S4 c1 c2 C2 HO
        go_wp2
        go_loopw [6, 7] (fun okv jv wi => ∃ (j : Nat), j ≤ m ∧ jv = .int .i64 j ∧ okv = .bool (newN (o.take j) N) ∧ Hid (Below wc.heap.size wc wi)) (fun _ jv _ => (m - intOf jv).toNat)
        case atStart => exact ⟨0, by omega, rfl, rfl, Below.refl _ _⟩
        case round =>
          obtain ⟨j, hj, rfl, rfl, HBI⟩ := hrel
          obtain ⟨wi, rfl⟩ : ∃ v, v = wr := ⟨_, rfl⟩
          obtain ⟨hcj, cn, cx⟩ := HCE.out wi HBI.out
          by_cases hjm : j < m
          · have hjm' : (j : Int) < m := by omega
            have hjl : j < o.length := by rw [HM.out]; exact hjm
            obtain ⟨z, HZ⟩ : ∃ z, Hid (o[j]'hjl = z) := ⟨_, rfl⟩
            have e1 := hcj j z (by rw [List.getElem?_eq_getElem hjl, HZ.out])
            have HNS : Hid (newN (o.take (j + 1)) N = (newN (o.take j) N && !eqB z.1 N)) := by show _ = _; rw [List.take_succ_eq_append_getElem hjl, new_snoc, HZ.out]
            have KN : Hid (∀ n, Below wc.heap.size wc (wi.drewN n)) := fun n => Go.Proofs.YtpbapaghcabehaaGreatDoor.tj.below_dN HBI.out n
            have hjc : (j : Int) < oc := by omega
            have hq : (z.1.toList == N.toList) = eqB z.1 N := toList_eqB _ _
            generalize newN (o.take j) N = B at *
            generalize eqB z.1 N = q at *
            clear hcj
            cases B
            · have HB2 : Hid (newN (o.take (j + 1)) N = false) := by show _ = _; rw [HNS.out]; rfl
              go_wp2_with fail
              go_quiet (fail)
              go_wp2
              go_roundw
              case rel => exact ⟨j + 1, by omega, by first | rfl | go_num, (by rw [HB2.out]), KN.out _⟩
              case measure => simp [intOf]; omega
            · have HB2 : Hid (newN (o.take (j + 1)) N = !q) := by show _ = _; rw [HNS.out]; rfl
              cases q
              · go_wp2_with fail
                go_quiet (fail)
                go_wp2
                go_roundw
                case rel => exact ⟨j + 1, by omega, by first | rfl | go_num, (by rw [HB2.out]; try rfl), KN.out _⟩
                case measure => simp [intOf]; omega
              · go_wp2_with fail
                go_quiet (fail)
                go_wp2
                go_roundw
                case rel => exact ⟨j + 1, by omega, by first | rfl | go_num, (by rw [HB2.out]; try rfl), KN.out _⟩
                case measure => simp [intOf]; omega
          · have hjm' : ¬ (j : Int) < m := by omega
            have HTK : Hid (newN (o.take j) N = newN o N) := by show _ = _; rw [List.take_of_length_le (by rw [HM.out]; omega)]
            rw [HTK.out]
            have BWi : Hid (Below w.heap.size w wi) := BWc.out.trans (HBI.out.mono BWc.out.size)
            obtain ⟨B, HBB⟩ : ∃ B, Hid (newN o N = B) := ⟨_, rfl⟩
            rw [HBB.out] at HT ⊢
            have HOi : Hid (wi.ownsRow w.heap.size 77 2 (.slice (some ⟨ob, 0, none⟩) m oc) m (kcs o)) := own_kp HOc.out (Kp.of_below (A := fun _ => False) HBI.out) (fun _ _ e => e)
            clear hcj HTK HBB
            cases B
            · have HT2 : Hid (sgnF o (ks.drop (k + 1)) = R) := by have := HT.out; rw [if_neg (by decide)] at this; exact this
              go_wp2
              go_roundw
              case rel => exact ⟨k + 1, o, by omega, by rw [HM.out]; exact hm1, by rw [HM.out]; exact hm8, by first | rfl | go_num, by unfold Lk; rw [HM.out]; exact HOi.out, BWi.out, HT2.out⟩
              case measure => simp [intOf]; omega
            · have HT2 : Hid (sgnF (o ++ [(N, kx)]) (ks.drop (k + 1)) = R) := by have := HT.out; rw [if_pos rfl] at this; exact this
              have HOA : Hid ((wi.alloc (.cells #[.string N, .string kx] 77)).ownsRow w.heap.size 77 2 (.slice (some ⟨ob, 0, none⟩) m oc) m (kcs o)) := HOi.out.alloc _
              have BA : Hid (Below w.heap.size w (wi.alloc (.cells #[.string N, .string kx] 77))) := BWi.out.alloc BWi.out.size _
              go_wp2_with (at_builtin; refine wpList_append_own _ rfl _ _ 37 rfl w.heap.size 77 i0 (.agg #[.string ⟨#[]⟩, .string ⟨#[]⟩]) 2 32 Tryz.underlying37 HI.out.1 HI.out.2.1 HI.out.2.2.1 HI.out.2.2.2 rfl (by decide) (.slice (some ⟨ob, 0, none⟩) m oc) m _ rfl HOA.out ⟨wi.heap.size, 0, none⟩ 1 1 [.string N, .string kx] rfl rfl (new_two _ _ _ _) (one_two _ _) (by unfold maxLen; omega) (by omega) BA.out.size ?_; intro v2 w2 hown2 hgr2 hnn2; have F2 : Hid (World.ownsRow _ _ _ _ _ _ _) := hown2; have B2 : Hid (Below w.heap.size w w2) := BA.out.grown hgr2 BA.out.size (fun j hj => (HOA.out.lt _ hj).1); clear hown2 hgr2 hnn2)
              go_roundw
              case rel => exact ⟨k + 1, o ++ [(N, kx)], by omega, by simp, by rw [List.length_append, HM.out]; simp; omega, by first | rfl | go_num, by unfold Lk; rw [List.length_append, HM.out, kcs_app]; exact F2.out, B2.out, HT2.out⟩
              case measure => simp [intOf]; omega
    · have HE : Hid (o = R) := by
        show _ = _
        rw [← HA.out]
        rcases Nat.lt_or_ge k n with cc | cc
        · rw [sgn_full _ _ (by rw [HM.out]; intro e; exact hlt ⟨cc, e⟩)]
        · have : k = ks.length := by rw [HN.out]; omega
          rw [this, sgn_end]
      have hcs : (k : Int) < n ∧ ¬ (m : Int) < 8 ∨ ¬ (k : Int) < n := by omega
      have FIN : Hid (Lk w.heap.size (.slice oa m oc) R wr) := by rw [← HE.out]; unfold Lk; rw [HM.out]; exact HO.out
      clear hlt HA HE
      rcases hcs with ⟨h1, h2⟩ | h1
      · go_wp2
        go_ret
        exact ⟨⟨_, rfl, FIN.out⟩, HB.out⟩
      · go_wp2
        go_ret
        exact ⟨⟨_, rfl, FIN.out⟩, HB.out⟩
end Go.Proofs.YtpbapaghcabehaaGreatDoor.w5

namespace Go.Proofs.YtpbapaghcabehaaGreatDoor.w6
open Go.RowKit Go.PlainAid
open Go.Proofs.YtpbapaghcabehaaGreatDoor.pj Go.Proofs.YtpbapaghcabehaaGreatDoor.mo Go.Proofs.YtpbapaghcabehaaGreatDoor.nd Go.Proofs.YtpbapaghcabehaaGreatDoor.nh Go.Proofs.YtpbapaghcabehaaGreatDoor.tb Go.Proofs.YtpbapaghcabehaaGreatDoor.tc Go.Proofs.YtpbapaghcabehaaGreatDoor.tj Go.Proofs.YtpbapaghcabehaaGreatDoor.n3 Go.Proofs.YtpbapaghcabehaaGreatDoor.n4 Go.Proofs.YtpbapaghcabehaaGreatDoor.o1 Go.Proofs.YtpbapaghcabehaaGreatDoor.o5 Go.Proofs.YtpbapaghcabehaaGreatDoor.o6 Go.Proofs.YtpbapaghcabehaaGreatDoor.kp Go.Proofs.YtpbapaghcabehaaGreatDoor.p2 Go.Proofs.YtpbapaghcabehaaGreatDoor.w2
set_option linter.unusedVariables false
set_option maxRecDepth 4000

end Go.Proofs.YtpbapaghcabehaaGreatDoor.w6

namespace Go.Proofs.YtpbapaghcabehaaGreatDoor.w7
open Go.RowKit Go.PlainAid Go.Shelf
open Go.Proofs.YtpbapaghcabehaaGreatDoor.pj Go.Proofs.YtpbapaghcabehaaGreatDoor.mo Go.Proofs.YtpbapaghcabehaaGreatDoor.nd Go.Proofs.YtpbapaghcabehaaGreatDoor.nh Go.Proofs.YtpbapaghcabehaaGreatDoor.tb Go.Proofs.YtpbapaghcabehaaGreatDoor.tc Go.Proofs.YtpbapaghcabehaaGreatDoor.tj Go.Proofs.YtpbapaghcabehaaGreatDoor.n3 Go.Proofs.YtpbapaghcabehaaGreatDoor.n4 Go.Proofs.YtpbapaghcabehaaGreatDoor.o1 Go.Proofs.YtpbapaghcabehaaGreatDoor.o3 Go.Proofs.YtpbapaghcabehaaGreatDoor.o5 Go.Proofs.YtpbapaghcabehaaGreatDoor.o6 Go.Proofs.YtpbapaghcabehaaGreatDoor.o7 Go.Proofs.YtpbapaghcabehaaGreatDoor.kp Go.Proofs.YtpbapaghcabehaaGreatDoor.p2 Go.Proofs.YtpbapaghcabehaaGreatDoor.q2 Go.Proofs.YtpbapaghcabehaaGreatDoor.r1 Go.Proofs.YtpbapaghcabehaaGreatDoor.v4 Go.Proofs.YtpbapaghcabehaaGreatDoor.v8 Go.Proofs.YtpbapaghcabehaaGreatDoor.w2 Go.Proofs.YtpbapaghcabehaaGreatDoor.w3 Go.Proofs.YtpbapaghcabehaaGreatDoor.w5
set_option linter.unusedVariables false
set_option maxRecDepth 4000

-- owned keys are read
theorem lk_reads {B : Nat} {a : Option Addr} {n c : Nat} {r : List Ky} {w : World} (o : Lk B (.slice a n c) r w) (hn : r.length = n) : ReadsY w (.slice a n c) r := by
  subst hn
  rcases id o.2 with ⟨e, h0⟩ | ⟨g, cap, cur, e, _⟩
  · injection e with e1 e2 e3
    subst e1 e3
    exact ⟨none, 0, rfl, by omega, fun _ => rfl, .inl h0⟩
  · injection e with e1 e2 e3
    subst e1 e3
    obtain ⟨h1, h2, h3, h4, h5, h6⟩ := o.cells
    exact ⟨_, c, rfl, h2, (fun e => by cases e), .inr ⟨g, 0, rfl, fun i p hi => by rw [Nat.zero_add]; exact h6 i p hi⟩⟩
theorem lk_later {B : Nat} {v : Value} {r : List Ky} {w w' : World} (h : Lk B v r w) (b : Below w.heap.size w w') : Lk B v r w' := own_kp h (Kp.of_below (A := fun _ => False) b) (fun _ _ e => e)
theorem reads_take {w : World} {a : Option Addr} {c m : Nat} {l : List Ky} (h : ReadsY w (.slice a m c) l) (n : Nat) (hn : n ≤ l.length) : ReadsY w (.slice a n c) (l.take n) := by
  obtain ⟨a', c', e, h1, h2, h0⟩ := h
  injection e with e1 e2 e3
  subst e1 e3
  have hl : (l.take n).length = n := by rw [List.length_take]; omega
  refine ⟨a, c, by rw [hl], by rw [hl]; omega, h2, ?_⟩
  rcases h0 with h0 | ⟨b, off, rfl, hh⟩
  · exact .inl (by rw [hl]; omega)
  · refine .inr ⟨b, off, rfl, fun i st hi => hh i st ?_⟩
    have := (List.getElem?_eq_some_iff.1 hi).1
    rw [hl] at this
    rwa [List.getElem?_take_of_lt this] at hi
-- two rows of keys side by side
structure TwK (B : Nat) (a b : List Ky) (av bv : Value) (w : World) : Prop where
  x : Lk B av a w
  y : Lk B bv b w
  ap : ∀ j, av.ownBlock = some j → bv.ownBlock ≠ some j
theorem TwK.later {B : Nat} {a b : List Ky} {av bv : Value} {w w' : World} (h : TwK B a b av bv w) (k : Below w.heap.size w w') : TwK B a b av bv w' := ⟨lk_later h.x k, lk_later h.y k, h.ap⟩
theorem TwK.swap {B : Nat} {a b : List Ky} {av bv : Value} {w : World} (h : TwK B a b av bv w) : TwK B b a bv av w := ⟨h.y, h.x, fun j h1 h2 => h.ap j h2 h1⟩
theorem TwK.addX {B : Nat} {a b a' : List Ky} {av bv v : Value} {w w' : World} (h : TwK B a b av bv w) (hn : Lk B v a' w') (hg : w.grownBy w' av.ownBlock) (hv : v.ownBlock = av.ownBlock ∨ v.ownBlock = some w.heap.size) : TwK B a' b v bv w' := by
  refine ⟨hn, ?_, fun j h1 h2 => ?_⟩
  · refine World.ownsRow.kept h.y hg ?_
    cases hb : bv.ownBlock with
    | none => exact .inl rfl
    | some j => exact .inr (fun e => h.ap j e.symm hb)
  · rcases hv with e | e
    · exact h.ap j (by rw [← e]; exact h1) h2
    · rw [e] at h1
      have := (own_in h.y h2).2
      have := Option.some.inj h1
      omega
theorem TwK.nil (B : Nat) (w : World) : TwK B [] [] (.slice none 0 0) (.slice none 0 0) w := ⟨World.ownsRow_nil _ _ _ _, World.ownsRow_nil _ _ _ _, fun j h => by cases h⟩
-- the last three bits
theorem and7 (x : Int) : ∃ q : Nat, q ≤ 7 ∧ bits .and .i64 x 7 = (q : Int) := by
  have hx : (BitVec.ofInt 64 x).toNat &&& 7 ≤ 7 := Nat.and_le_right
  have h7 : (BitVec.ofInt 64 (7 : Int)).toNat = 7 := by decide
  refine ⟨(BitVec.ofInt 64 x).toNat &&& 7, hx, ?_⟩
  show IntKind.i64.wrap ((BitVec.ofInt 64 x &&& BitVec.ofInt 64 (7 : Int)).toNat : Int) = _
  rw [BitVec.toNat_and, h7, IntKind.wrap_i64]
  generalize (BitVec.ofInt 64 x).toNat &&& 7 = z at *
  omega
-- the calls of the law, over a note of one's own
theorem sign1 (t : ByteArray) (l : List Ky) (hg : goesB t = true) (h : KGood l) (h0 : l.length ≠ 0) (h8 : l.length ≤ 8) (ht : t.size ≤ 20001) (hs : ∀ k ∈ l, k.1.size ≤ 140737488351232 ∧ k.2.size ≤ 140737488351232) (v : Value) (w : World) (hr : ReadsY w v l) (T : Hid (Tab w)) :
    Calls Tryz.prog 12 #[.string t, v] w fun e w' => e = .returned (.tuple #[.string (noteOf t (sgs t l)), .int .i64 0]) ∧ Below w.heap.size w w' := by
  rw [← sign_note t l hg h h0 h8 ht (tg_good h)]
  exact signC v t l w hr (by omega) (by omega) hs T
theorem pick_sub (b : Nat → Bool) {l : List Ky} : ∀ k ∈ pick b 0 l, k ∈ l := fun k hk => by
  obtain ⟨j, hj, h, _⟩ := (pick_mem b l 0 k).1 hk
  rw [← h]
  exact List.getElem_mem hj
-- what Open answers to who knows some of the keys
def OpM (B0 : Nat) (w' : World) (t : ByteArray) (go re : List Sg) (ng nr : Nat) (E : Int) (e : Ending) : Prop := ∃ ga gc ra rc, e = .returned (.tuple #[.agg #[.string t, .slice ga ng gc, .slice ra nr rc], .int .i64 E]) ∧ ReadsG w' (.slice ga ng gc) go ∧ ReadsG w' (.slice ra nr rc) re
theorem open1 (t : ByteArray) (l : List Ky) (b : Nat → Bool) (hg : goesB t = true) (h : KGood l) (h0 : l.length ≠ 0) (h8 : l.length ≤ 8) (ht : t.size ≤ 20001) (hs : ∀ k ∈ l, k.1.size ≤ 140737488351232 ∧ k.2.size ≤ 140737488351232) (v : Value) (w : World) (hr : ReadsY w v (pick b 0 l)) (T : Hid (Tab w)) :
    Calls Tryz.prog 14 #[.string (noteOf t (sgs t l)), v] w fun e w' => (if (pick b 0 l).length = 0 then OpM 0 w' ByteArray.empty [] [] 0 0 202 e else OpM 0 w' t (sgs t (pick b 0 l)) (sgs t (pick (fun j => !b j) 0 l)) (pick b 0 l).length (pick (fun j => !b j) 0 l).length 0 e) ∧ Below w.heap.size w w' := by
  obtain ⟨RL, hG, _⟩ := gives_ex (noteOf t (sgs t l))
  have hz := Go.Proofs.YtpbapaghcabehaaGreatDoor.w2.note_size t l h h8 ht
  have hp := pick_len b l 0
  refine (openC (noteOf t (sgs t l)) (by omega) RL hG v (pick b 0 l) w hr (by omega) (fun k hk => hs k (pick_sub b k hk)) T).mono ?_
  rintro e w' ⟨hq, hb⟩
  refine ⟨?_, hb⟩
  rw [open_mine t l b hg h h0 h8 ht RL hG] at hq
  by_cases hc : (pick b 0 l).length = 0
  · rw [if_pos hc] at hq ⊢
    obtain ⟨ga, gc, ra, rc, h1, h2, h3, _⟩ := hq
    exact ⟨ga, gc, ra, rc, h1, h2, h3⟩
  · rw [if_neg hc] at hq ⊢
    obtain ⟨ga, gc, ra, rc, h1, h2, h3, _⟩ := hq
    simp only [List.length_map] at h1 h2 h3
    exact ⟨ga, gc, ra, rc, h1, h2, h3⟩
end Go.Proofs.YtpbapaghcabehaaGreatDoor.w7
