import Derived.Test.YtgkhnjmbmbebiaaLk
import Derived.Test.YtgkhnjmbmbebiaaWi
namespace Go.Proofs.Ytgkhnjmbmbebiaa.tl
open Go.RowKit Go.PlainAid
open Go.Proofs.Ytgkhnjmbmbebiaa.ca Go.Proofs.Ytgkhnjmbmbebiaa.cb Go.Proofs.Ytgkhnjmbmbebiaa.cp Go.Proofs.Ytgkhnjmbmbebiaa.ga Go.Proofs.Ytgkhnjmbmbebiaa.aa Go.Proofs.Ytgkhnjmbmbebiaa.ba Go.Proofs.Ytgkhnjmbmbebiaa.bb Go.Proofs.Ytgkhnjmbmbebiaa.kp Go.Proofs.Ytgkhnjmbmbebiaa.lk Go.Proofs.Ytgkhnjmbmbebiaa.wi
set_option linter.unusedVariables false

-- the tally of a shape
def WT (lk : Nat → Nat → Nat) (cur : Nat → Nat) : Wy Nat Int where
  lk := fun x a b => (lk a b, if lk a b < 2 then cur b else x)
  hv := fun x a b s => (if s = 1 then 1 else 0, x)
  jn := fun l r => IntKind.i64.wrap (l + r)
theorem go_tally {lk : Nat → Nat → Nat} {cur : Nat → Nat} (hw : ∀ {a b}, a < b → 2 ≤ lk a b → 2 ≤ b - a) (hf : ∀ a b, lk a b ≤ 3) (ht : ∀ {a b}, lk a b = 3 → ∀ p, cur p = cur 0) (n : Nat) :
    ∀ a b, b - a = n → a < b → b ≤ 4611686018427387904 → go (WT lk cur) (cur a) a b = (((WL lk a b).length : Int), cur b) ∧ (WL lk a b).length ≤ b - a := by
  induction n using Nat.strongRecOn with
  | ind n ih =>
    intro a b hn hab hb
    have h3 := hf a b
    rcases (show lk a b = 0 ∨ lk a b = 1 ∨ lk a b = 2 ∨ lk a b = 3 by omega) with h | h | h | h
    · have e : (WT lk cur).lk (cur a) a b = (0, cur b) := by show (lk a b, _) = _; rw [h]; rfl
      rw [go_stop (by rw [e]; show 0 < 2; omega), e, WL_pass h]
      exact ⟨rfl, by simp⟩
    · have e : (WT lk cur).lk (cur a) a b = (1, cur b) := by show (lk a b, _) = _; rw [h]; rfl
      rw [go_stop (by rw [e]; show 1 < 2; omega), e, WL_take h]
      exact ⟨rfl, by simp; omega⟩
    · have h2 := hw hab (by omega)
      have hh := half_lt h2
      have e : (WT lk cur).lk (cur a) a b = (2, cur a) := by show (lk a b, _) = _; rw [h]; rfl
      obtain ⟨i1, l1⟩ := ih (half (b - a)) (by omega) a (a + half (b - a)) (by omega) (by omega) (by omega)
      obtain ⟨i2, l2⟩ := ih (b - a - half (b - a)) (by omega) (a + half (b - a)) b (by omega) (by omega) hb
      rw [go_left (by rw [e]) h2, e]
      simp only
      rw [i1, i2, WL_left h h2, List.length_append]
      refine ⟨?_, by omega⟩
      show (IntKind.i64.wrap _, _) = _
      rw [IntKind.wrap_i64]
      simp only [Prod.mk.injEq, and_true]
      omega
    · have h2 := hw hab (by omega)
      have hh := half_lt h2
      have hc := ht h
      have e : (WT lk cur).lk (cur a) a b = (3, cur a) := by show (lk a b, _) = _; rw [h]; rfl
      obtain ⟨i1, l1⟩ := ih (half (b - a)) (by omega) a (a + half (b - a)) (by omega) (by omega) (by omega)
      obtain ⟨i2, l2⟩ := ih (b - a - half (b - a)) (by omega) (a + half (b - a)) b (by omega) (by omega) hb
      rw [go_right (by rw [e]; exact Nat.le_refl _) h2, e]
      simp only
      rw [show cur a = cur (a + half (b - a)) by rw [hc a, hc (a + half (b - a))], i2]
      simp only
      rw [show cur b = cur a by rw [hc a, hc b], i1, WL_right (by omega) h2, List.length_append]
      refine ⟨?_, by omega⟩
      show (IntKind.i64.wrap _, _) = _
      rw [IntKind.wrap_i64, show cur (a + half (b - a)) = cur a by rw [hc a, hc (a + half (b - a))]]
      simp only [Prod.mk.injEq, and_true]
      omega
theorem haveT (a b s : Nat) (hs : s < 2) (w : World) : Calls Try.prog 22 #[.agg #[.int .i64 a, .int .i64 b], .int .i64 s] w fun e w' => e = .returned (.int .i64 (if s = 1 then 1 else 0)) ∧ Below w.heap.size w w' := by
  have B0 : Hid (Below w.heap.size w (w.alloc (.cells #[.int .i64 a, .int .i64 b] 47))) := (Below.refl _ _).alloc (Nat.le_refl _) _
  rcases (show s = 0 ∨ s = 1 by omega) with rfl | rfl
  · go_enter Try.func22, Try.ntmps22
    go_wp2
    go_ret
    exact ⟨rfl, B0.out⟩
  · go_enter Try.func22, Try.ntmps22
    go_wp2
    go_ret
    exact ⟨rfl, B0.out⟩
theorem joinT (l r : Int) (w : World) : Calls Try.prog 24 #[.int .i64 l, .int .i64 r] w fun e w' => e = .returned (.int .i64 (IntKind.i64.wrap (l + r))) ∧ w' = w := by
  obtain ⟨x, HX⟩ : ∃ x, Hid (IntKind.i64.wrap (l + r) = x) := ⟨_, rfl⟩
  have hx := HX.out
  rw [hx]
  go_enter Try.func24, Try.ntmps24
  go_wp2
  go_ret
  exact ⟨rfl, rfl⟩
section
variable {D F : Nat → Prop} {SS : Nat → World → Prop} {lk : Nat → Nat → Nat} {cur : Nat → Nat} {lg : Nat} {lv : Array Value}
theorem KT (S : Shp D F SS lk cur lg lv) : Wk F SS (fun v : Int => Value.int .i64 v) (WT lk cur) (fun x a b => x = cur a ∧ a < b ∧ b ≤ 4611686018427387904) (fun _ => True) lg 22 24 lv #[] #[] where
  lent := S.enter
  hent := fun args w => by simp [go_sem]
  jent := fun args w => by simp [go_sem]
  later := fun h b => S.later h b
  fl := fun h b hb => S.fl h b (S.fd b hb)
  look := fun x a b w hab hb hP hS => by
    obtain ⟨rfl, _⟩ := hP
    exact S.call a b w hab hb hS
  have' := fun x a b w hab hb hP h hS => (haveT a b (lk a b) h w).mono fun e w' hh => ⟨hh.1, S.later hS hh.2, Kp.of_below hh.2⟩
  join := fun l r x w _ _ _ => (joinT l r w).mono fun e w' hh => ⟨hh.1, by rw [hh.2]; exact Below.refl _ _⟩
  qh := fun _ _ _ => trivial
  qj := fun _ _ => trivial
  wide := fun hab _ h => S.wide hab h
  four := fun _ _ => S.four _ _
  left := fun {x a b} hab hP h => by
    obtain ⟨rfl, _, hb⟩ := hP
    have h' : lk a b = 2 := h
    have h2 := S.wide hab (by omega)
    have hh := half_lt h2
    have e : (WT lk cur).lk (cur a) a b = (2, cur a) := by show (lk a b, _) = _; rw [h']; rfl
    rw [e]
    simp only
    rw [(go_tally S.wide S.four S.turn (half (b - a)) a (a + half (b - a)) (by omega) (by omega) (by omega)).1]
    exact ⟨⟨by first | rfl | trivial, by omega, by omega⟩, rfl, by omega, hb⟩
  right := fun {x a b} hab hP h => by
    obtain ⟨rfl, _, hb⟩ := hP
    have h' : lk a b = 3 := h
    have hc := S.turn h'
    have h2 := S.wide hab (by omega)
    have hh := half_lt h2
    have e : (WT lk cur).lk (cur a) a b = (3, cur a) := by show (lk a b, _) = _; rw [h']; rfl
    rw [e]
    simp only
    rw [show cur a = cur (a + half (b - a)) by rw [hc a, hc (a + half (b - a))], (go_tally S.wide S.four S.turn (b - a - half (b - a)) (a + half (b - a)) b (by omega) (by omega) hb).1]
    exact ⟨⟨by first | rfl | trivial, by omega, hb⟩, by first | (show cur b = cur (a + half (b - a)); rw [hc b, hc (a + half (b - a))]) | (show cur b = cur a; rw [hc a, hc b]), by omega, by omega⟩
theorem tallyC (S : Shp D F SS lk cur lg lv) (n : Nat) (h1 : 1 ≤ n) (hn : n ≤ 4611686018427387904) (w : World) (hS : SS (cur 0) w) :
    Calls Try.prog 13 #[.int .i64 n, .func (.func lg) #[] lv] w fun e w' => e = .returned (.int .i64 ((WL lk 0 n).length : Nat)) ∧ SS (cur n) w' ∧ Kp F w w' := by
  have HC : Hid (Calls _ _ _ _ _) := walkC (KT S) n 0 n (cur 0) w rfl (by omega) hn ⟨rfl, by omega, hn⟩ hS
  rw [(go_tally S.wide S.four S.turn n 0 n rfl (by omega) hn).1] at HC
  clear hS
  go_enter Try.func13, Try.ntmps13
  go_wp2_with fail
  refine HC.out.mono ?_
  rintro e w1 ⟨rfl, hs, hk, _⟩
  have H : Hid (SS (cur n) w1 ∧ Kp F w w1) := ⟨hs, hk⟩
  clear hs hk
  go_wp2
  go_ret
  exact ⟨rfl, H.out.1, H.out.2⟩
end
-- of an older tree without leaves nothing is asked
theorem tallyZ (ob mb n : Nat) (w : World) (hO : Bx w ob 0 0) (hP : w.cell? ⟨mb, 0, none⟩ = some (.int .i64 0)) :
    Calls Try.prog 13 #[.int .i64 n, .func (.func 37) #[] #[.pointer (some ⟨mb, 0, none⟩), .pointer (some ⟨ob, 0, none⟩)]] w fun e w' => e = .returned (.int .i64 0) ∧ Below w.heap.size w w' := by
  have HW : Hid (Calls Try.prog 23 #[.agg #[.int .i64 0, .int .i64 n], .func (.func 37) #[] #[.pointer (some ⟨mb, 0, none⟩), .pointer (some ⟨ob, 0, none⟩)], .func (.func 22) #[] #[], .func (.func 24) #[] #[]] w fun e w' => e = .returned (.int .i64 0) ∧ Below w.heap.size w w') := by
    have BA : Hid (Below w.heap.size w (w.alloc (.cells #[.int .i64 0, .int .i64 n] 47))) := (Below.refl _ _).alloc (Nat.le_refl _) _
    have HBX : Hid (Bx (w.alloc (.cells #[.int .i64 0, .int .i64 n] 47)) w.heap.size 0 n) := part_box w 0 n
    have L : Hid (Calls _ _ _ _ _) := lookZ ob mb 0 n (w.alloc (.cells #[.int .i64 0, .int .i64 n] 47)) (hO.later BA.out) ((BA.out.cell (World.block_lt_of_cell? _ _ hP)).trans hP)
    have HV : Hid (∀ w, Calls _ _ _ _ _) := fun w => haveT 0 n 0 (by omega) w
    show Calls _ _ _ _ _
    clear hO hP
    go_enter Try.func23, Try.ntmps23
    go_wp2_with fail
    refine L.out.mono ?_
    rintro e w1 ⟨rfl, hb1⟩
    have B1 : Hid (Below w.heap.size w w1) := over BA.out hb1
    obtain ⟨c1, c2⟩ := HBX.out.later hb1
    clear hb1
    go_wp2_with fail
    refine (HV.out _).mono ?_
    rintro e w2 ⟨rfl, hb2⟩
    have B2 : Hid (Below w.heap.size w w2) := over B1.out hb2
    clear hb2 c1 c2
    go_wp2
    go_ret
    exact ⟨rfl, B2.out⟩
  clear hO hP
  go_enter Try.func13, Try.ntmps13
  go_wp2_with fail
  refine HW.out.mono ?_
  rintro e w1 ⟨rfl, hb1⟩
  have B1 : Hid (Below w.heap.size w w1) := hb1
  clear hb1
  go_wp2
  go_ret
  exact ⟨rfl, B1.out⟩
end Go.Proofs.Ytgkhnjmbmbebiaa.tl
