import Derived.Test.YtdhhbkkinlmgnaaXf
namespace Go.Proofs.Ytdhhbkkinlmgnaa.xg
open Go.RowKit Go.PlainAid Go.Maps Go.Shelf
open Go.Proofs.Ytdhhbkkinlmgnaa.ca Go.Proofs.Ytdhhbkkinlmgnaa.cb Go.Proofs.Ytdhhbkkinlmgnaa.cp Go.Proofs.Ytdhhbkkinlmgnaa.kp Go.Proofs.Ytdhhbkkinlmgnaa.ka Go.Proofs.Ytdhhbkkinlmgnaa.ya Go.Proofs.Ytdhhbkkinlmgnaa.yb Go.Proofs.Ytdhhbkkinlmgnaa.yc Go.Proofs.Ytdhhbkkinlmgnaa.ye Go.Proofs.Ytdhhbkkinlmgnaa.yf Go.Proofs.Ytdhhbkkinlmgnaa.yi Go.Proofs.Ytdhhbkkinlmgnaa.yk Go.Proofs.Ytdhhbkkinlmgnaa.yl Go.Proofs.Ytdhhbkkinlmgnaa.ym Go.Proofs.Ytdhhbkkinlmgnaa.zf Go.Proofs.Ytdhhbkkinlmgnaa.zg Go.Proofs.Ytdhhbkkinlmgnaa.xa Go.Proofs.Ytdhhbkkinlmgnaa.xb Go.Proofs.Ytdhhbkkinlmgnaa.xc Go.Proofs.Ytdhhbkkinlmgnaa.xd Go.Proofs.Ytdhhbkkinlmgnaa.xe Go.Proofs.Ytdhhbkkinlmgnaa.xf
set_option linter.unusedVariables false
set_option linter.unusedSimpArgs false
theorem wws_at (l : List W) (j : Nat) (x : W) (h : l[j]? = some x) : (wws l)[j * 3]? = some (.string x.key) ∧ (wws l)[j * 3 + 1]? = some (.string x.data) ∧ (wws l)[j * 3 + 2]? = some (.bool x.cut) := by
  induction l generalizing j with
  | nil => simp at h
  | cons q l ih =>
    cases j with
    | zero =>
      simp at h
      subst h
      exact ⟨rfl, rfl, rfl⟩
    | succ j =>
      have := ih j (by simpa using h)
      have e1 : (j + 1) * 3 = j * 3 + 3 := by omega
      rw [e1]
      exact this
theorem wl_at {B : Nat} {a : Option Addr} {c : Nat} {l : List W} {w : World} (o : w.ownsRow B 104 3 (.slice a l.length c) l.length (wws l)) (j : Nat) (x : W) (hj : l[j]? = some x) : ∃ g, a = some ⟨g, 0, none⟩ ∧ g < w.heap.size ∧ w.cell? ⟨g, j * 3, none⟩ = some (.string x.key) ∧ w.cell? ⟨g, j * 3 + 1, none⟩ = some (.string x.data) ∧ w.cell? ⟨g, j * 3 + 2, none⟩ = some (.bool x.cut) := by
  have hjl := (List.getElem?_eq_some_iff.1 hj).1
  rcases o.2 with ⟨_, h0⟩ | ⟨g, cap, cur, e, _, h3, h4, h5, h6, h7⟩
  · omega
  · injection e with e1 _ _
    obtain ⟨s1, s2, s3⟩ := wws_at l j x hj
    rw [← h7, List.getElem?_take_of_lt (by omega)] at s1 s2 s3
    refine ⟨g, e1, (Array.getElem?_eq_some_iff.1 h3).1, ?_, ?_, ?_⟩
    · rw [cell_of_row _ _ _ _ _ _ h3]; simpa using s1
    · rw [cell_of_row _ _ _ _ _ _ h3]; simpa using s2
    · rw [cell_of_row _ _ _ _ _ _ h3]; simpa using s3
theorem ok_crash {s : S} (keep : ByteArray) (h : OkS s) (ha : s.age < 4398046511104) : OkS (crashS s keep) := by
  refine ⟨?_, srt_kd h.srt _, (by intro x hx; cases hx), h.cap0, h.cap1, by show 0 ≤ _; omega, by show s.age + 1 ≤ _; omega, ?_⟩
  · exact ok_kd h.dur h.pend _
  · have := len_kd keep s.pend s.dur s.pend.length
    have h2 := h.len
    show (kdN keep s.pend s.dur s.pend.length).length + 0 < _
    omega
-- behind the loop: the six fields written
theorem crash_fin {B g : Nat} {dv wv vv lv : Value} {s : S} {w wr : World} (keep : ByteArray) (h : Ds B g dv wv vv s w) (ha : s.age < 4398046511104) (b : Below w.heap.size w wr) (hl : Lr B lv (kdN keep s.pend s.dur s.pend.length) wr) :
    Rd B g wv (crashS s keep) w ((((((wr.setCell ⟨g, 1, none⟩ lv).setCell ⟨g, 6, none⟩ lv).setCell ⟨g, 2, none⟩ (.slice none 0 0)).setCell ⟨g, 3, none⟩ (.bool false)).setCell ⟨g, 4, none⟩ (.int .i64 0)).setCell ⟨g, 5, none⟩ (.int .i64 ((s.age + 1 : Nat) : Int))) := by
  have h5 := h.later b
  have r2 := (((((h5.row.set1 lv).set6 lv).set2 (.slice none 0 0)).set3 false).set4 0).set5 (s.age + 1)
  have kk : Kp (fun k => k = g) wr ((((((wr.setCell ⟨g, 1, none⟩ lv).setCell ⟨g, 6, none⟩ lv).setCell ⟨g, 2, none⟩ (.slice none 0 0)).setCell ⟨g, 3, none⟩ (.bool false)).setCell ⟨g, 4, none⟩ (.int .i64 0)).setCell ⟨g, 5, none⟩ (.int .i64 ((s.age + 1 : Nat) : Int))) :=
    Kp.trans (A := fun k => k = g) (Kp.trans (A := fun k => k = g) (Kp.trans (A := fun k => k = g) (Kp.trans (A := fun k => k = g) (Kp.trans (A := fun k => k = g) (Kp.setCell _ g _ _ rfl) (Kp.setCell _ g _ _ rfl)) (Kp.setCell _ g _ _ rfl)) (Kp.setCell _ g _ _ rfl)) (Kp.setCell _ g _ _ rfl)) (Kp.setCell _ g _ _ rfl)
  have hl2 := own_kp hl kk (fun j hj e => own_tag hl h5.row dr1 (by rw [← e]; exact hj))
  exact ⟨lv, .slice none 0 0, lv, ⟨r2, hl2, hl2, World.ownsRow_nil _ _ _ _, h.low, ok_crash keep h.ok ha⟩, (Kp.of_below b).trans (kk.mono (fun _ e => .inl e)), fun k hk => by cases hk⟩
set_option maxRecDepth 40000 in
set_option maxHeartbeats 12800000 in
theorem crashD {B g : Nat} {dv wv vv : Value} {s : S} {w : World} (keep : ByteArray) (h : Ds B g dv wv vv s w) (hB : B ≤ w.heap.size) (hk : keep.size ≤ 140737488355328) (ha : s.age < 4398046511104) :
    Calls Try.prog 40 #[.pointer (some ⟨g, 0, none⟩), .string keep] w fun e w' => e = .returned (.tuple #[]) ∧ Rd B g wv (crashS s keep) w w' := by
  have H : Hid (Ds B g dv wv vv s w) := h
  have hbt := get_bt keep
  have hlen := h.ok.len
  obtain ⟨wa, wcp, hwv⟩ := own_formS h.wl
  subst hwv
  obtain ⟨P, HP⟩ : ∃ P, Hid (s.pend = P) := ⟨_, rfl⟩
  obtain ⟨da, dc, hdv⟩ := lr_form h.dl
  have FIN : Hid (∀ lv wr, Below w.heap.size w wr → Lr B lv (kdN keep P s.dur P.length) wr → Rd B g (.slice wa s.pend.length wcp) (crashS s keep) w _) := fun lv wr b hl => crash_fin keep H.out ha b (by rw [HP.out]; exact hl)
  have CX : Hid (∀ wr, Below w.heap.size w wr → Ds B g dv (.slice wa s.pend.length wcp) vv s wr) := fun wr b => H.out.later b
  have WL : Hid (∀ (j : Nat) (x : W), P[j]? = some x → ∃ gw, wa = some ⟨gw, 0, none⟩ ∧ ∀ wr, Below w.heap.size w wr → wr.cell? ⟨gw, j * 3, none⟩ = some (.string x.key) ∧ wr.cell? ⟨gw, j * 3 + 1, none⟩ = some (.string x.data) ∧ wr.cell? ⟨gw, j * 3 + 2, none⟩ = some (.bool x.cut)) := fun j x hx => by
    obtain ⟨gw, e, hg, q1, q2, q3⟩ := wl_at H.out.wl j x (by rw [HP.out]; exact hx)
    exact ⟨gw, e, fun wr b => ⟨(b.cell hg).trans q1, (b.cell hg).trans q2, (b.cell hg).trans q3⟩⟩
  have HDL : Hid (Lr B dv s.dur w) := h.dl
  have HSD : Hid (Srt s.dur) := h.ok.srt
  have c1 := h.row.c1
  rw [HP.out] at CX FIN hlen
  obtain ⟨n, hn⟩ : ∃ n, P.length = n := ⟨_, rfl⟩
  have HNN : Hid _ := hn
  have HNL : Hid (s.pend.length = n) := by rw [HP.out]; exact hn
  rw [hn] at CX FIN hlen
  subst hdv
  have SV : Hid (∀ j x, P[j]? = some x → kdN keep P s.dur (j + 1) = if surv keep j then doW (kdN keep P s.dur j) x else kdN keep P s.dur j) := fun j x hx => by
    show (match P[j]? with | some x => _ | none => _) = _
    rw [hx]
  clear h hn
  go_enter Try.func40, Try.ntmps40
  go_wp2_with fail
  go_loopw [4, 5] (fun lv iv wr => ∃ j : Nat, j ≤ n ∧ iv = .int .i64 j ∧ Hid (Lr B lv (kdN keep P s.dur j) wr ∧ Below w.heap.size w wr)) (fun _ iv _ => (n - intOf iv).toNat)
  case atStart => exact ⟨0, Nat.zero_le _, rfl, HDL.out, Below.refl _ _⟩
  case round =>
    obtain ⟨j, hj, rfl, HH⟩ := hrel
    have hc2 := (CX.out wr HH.out.2).row.c2
    have hlk := len_kd keep P s.dur j
    obtain ⟨la, lc, hlv⟩ := lr_form HH.out.1
    subst hlv
    obtain ⟨kl, HKL⟩ : ∃ kl, Hid ((kdN keep P s.dur j).length = kl) := ⟨_, rfl⟩
    by_cases hgo : j < n ∧ 0 < keep.size
    · have g1 : (j : Int) < n := by omega
      have g2 : decide ((0 : Int) < (keep.size : Int)) = true := decide_eq_true (by omega)
      have g3 : decide (0 < keep.size) = true := decide_eq_true hgo.2
      have hk0 := hgo.2
      obtain ⟨x, hx⟩ : ∃ x, P[j]? = some x := ⟨_, List.getElem?_eq_getElem (by have := HNN.out; omega)⟩
      obtain ⟨gw, hwa, hcx⟩ := WL.out j x hx
      have hsv := SV.out j x hx
      obtain ⟨x0, x1, x2⟩ := hcx wr HH.out.2
      obtain ⟨m, hm0⟩ : ∃ m, keep.size = m := ⟨_, rfl⟩
      obtain ⟨r, hr⟩ : ∃ r, j % m = r := ⟨_, rfl⟩
      have hrn : r < m := by rw [← hr]; exact Nat.mod_lt _ (by omega)
      have hm : Int.tmod (j : Int) (m : Int) = (r : Int) := by rw [← hr]; rfl
      have hn0 : ((m : Int) == 0) = false := by rw [beq_eq_false_iff_ne]; omega
      have hw1 : IntKind.i64.wrap (r : Int) = r := wrap_is _ (by omega)
      have hrs : r < keep.size := by omega
      have hb0 := bt_nonneg keep r
      have hb1 := bt_le keep r
      have HSV : Hid (surv keep j = decide (bt keep r % 2 = 1)) := by
        show _ = _
        unfold surv
        rw [hm0, hr]
        simp [show m ≠ 0 by omega]
      have hlt2 : (r : Int) < (m : Int) := by omega
      obtain ⟨y, hy⟩ : ∃ y, bt keep r = y := ⟨_, rfl⟩
      rw [hy] at hb0 hb1 HSV
      have hy' : ∀ h, ((keep[r]'h).toNat : Int) = y := fun h => by rw [← hy]; exact hbt r h
      have ht : Int.tmod y 2 = y % 2 := Int.tmod_eq_emod_of_nonneg hb0
      have hw2 : IntKind.u8.wrap (y % 2) = y % 2 := by
        rcases (show y % 2 = 0 ∨ y % 2 = 1 by omega) with e | e <;> rw [e] <;> decide
      subst hwa
      by_cases ho : y % 2 = 1
      · have t1 : (y % 2 == 1) = true := by rw [ho]; rfl
        rw [HSV.out, decide_eq_true ho, if_pos rfl] at hsv
        have HKD : Hid _ := hsv
        have CD : Hid (Calls _ _ _ _ _) := doneC (.slice la (kdN keep P s.dur j).length lc) (kdN keep P s.dur j) x wr HH.out.1 (srt_kd HSD.out _) (by omega)
        obtain ⟨xk, hxk⟩ : ∃ q, x.key = q := ⟨_, rfl⟩
        obtain ⟨xd, hxd⟩ : ∃ q, x.data = q := ⟨_, rfl⟩
        obtain ⟨xc', hxc⟩ : ∃ q, x.cut = q := ⟨_, rfl⟩
        rw [hxk, hxd, hxc] at CD
        rw [hxk] at x0
        rw [hxd] at x1
        rw [hxc] at x2
        rw [HKL.out] at CD ⊢
        clear hx hsv hxk hxd hxc hr hy hcx HSV hbt hgo
        go_wp2_with fail
        refine CD.out.mono ?_
        rintro _ w5 ⟨v5, rfl, gr⟩
        have H5 : Hid (Lr B v5 (kdN keep P s.dur (j + 1)) w5 ∧ Below w.heap.size w w5) := by
          rw [HKD.out]
          exact ⟨own_low gr.own (Nat.le_trans hB HH.out.2.size), over HH.out.2 gr.bl⟩
        clear gr
        go_wp2
        go_roundw
        case rel => exact ⟨j + 1, by omega, by go_num, H5.out⟩
        case measure => simp [intOf]; omega
      · have t1 : (y % 2 == 1) = false := by rw [beq_eq_false_iff_ne]; exact ho
        rw [HSV.out, decide_eq_false ho, if_neg (by simp)] at hsv
        have HKD : Hid _ := hsv
        clear hx hsv hr hy hcx HSV hbt hgo x0 x1 x2
        go_wp2
        go_roundw
        case rel => exact ⟨j + 1, by omega, by go_num, by rw [HKD.out]; exact HH.out⟩
        case measure => simp [intOf]; omega
    · have HF : Hid (Lr B (.slice la (kdN keep P s.dur j).length lc) (kdN keep P s.dur n) wr ∧ Below w.heap.size w wr) := by
        refine ⟨?_, HH.out.2⟩
        rcases Nat.lt_or_ge j n with h1 | h1
        · have h2 : keep.size = 0 := by omega
          have := HH.out.1
          rw [zb.kd_no h2 P s.dur j] at this
          rw [zb.kd_no h2 P s.dur j, zb.kd_no h2 P s.dur n]
          exact this
        · have e : j = n := by omega
          rw [← e]; exact HH.out.1
      have hgs : (¬ (j : Int) < n) ∨ ((j : Int) < n ∧ decide ((0 : Int) < (keep.size : Int)) = false ∧ decide (0 < keep.size) = false) := by
        rcases Nat.lt_or_ge j n with h1 | h1
        · exact .inr ⟨by omega, decide_eq_false (by omega), decide_eq_false (by omega)⟩
        · exact .inl (by omega)
      have d := CX.out wr HH.out.2
      have c1 := d.row.c1
      have c6 := d.row.c6
      have c3 := d.row.c3
      have c4 := d.row.c4
      have c5 := d.row.c5
      have f1 := d.row.fz 1
      have f2 := d.row.fz 2
      have f3 := d.row.fz 3
      have f4 := d.row.fz 4
      have f5 := d.row.fz 5
      have f6 := d.row.fz 6
      have FF : Hid _ := FIN.out _ wr HF.out.2 HF.out.1
      rw [HKL.out] at FF ⊢
      obtain ⟨A, hA⟩ : ∃ A, s.age + 1 = A := ⟨_, rfl⟩
      rw [hA] at FF
      have hag2 : (s.age : Int) + 1 = (A : Int) := by omega
      have hag : IntKind.i64.wrap (A : Int) = (A : Int) := wrap_is _ (by omega)
      have hag3 : IntKind.i64.wrap ((s.age : Int) + 1) = (A : Int) := by rw [hag2]; exact hag
      clear hA
      clear d hgo hbt
      rcases hgs with g1 | ⟨g1, g2, g3⟩
      all_goals
        go_wp2
        go_end0
        exact ⟨rfl, by rw [HNL.out]; exact FF.out⟩
end Go.Proofs.Ytdhhbkkinlmgnaa.xg
