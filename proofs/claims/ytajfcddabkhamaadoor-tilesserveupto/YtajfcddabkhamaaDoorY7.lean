import Derived.Test.YtajfcddabkhamaaDoorY6
import Derived.Deep.AppendLies
import Derived.BigQuiet
import Derived.Deep.DeepCutAuto
import Derived.Test.YtajfcddabkhamaaDoorY5
import Derived.Test.YtajfcddabkhamaaDoorY1
namespace Go.Proofs.YtajfcddabkhamaaDoor.sc
open Go.RowKit Go.PlainAid Go.Shelf
open Go.Proofs.YtajfcddabkhamaaDoor.pl Go.Proofs.YtajfcddabkhamaaDoor.pi Go.Proofs.YtajfcddabkhamaaDoor.rf Go.Proofs.YtajfcddabkhamaaDoor.pj Go.Proofs.YtajfcddabkhamaaDoor.ca Go.Proofs.YtajfcddabkhamaaDoor.cb Go.Proofs.YtajfcddabkhamaaDoor.cp Go.Proofs.YtajfcddabkhamaaDoor.cs Go.Proofs.YtajfcddabkhamaaDoor.xc Go.Proofs.YtajfcddabkhamaaDoor.ka Go.Proofs.YtajfcddabkhamaaDoor.kb Go.Proofs.YtajfcddabkhamaaDoor.kd Go.Proofs.YtajfcddabkhamaaDoor.ga Go.Proofs.YtajfcddabkhamaaDoor.aa Go.Proofs.YtajfcddabkhamaaDoor.ab Go.Proofs.YtajfcddabkhamaaDoor.tb Go.Proofs.YtajfcddabkhamaaDoor.ac Go.Proofs.YtajfcddabkhamaaDoor.bc Go.Proofs.YtajfcddabkhamaaDoor.bn Go.Proofs.YtajfcddabkhamaaDoor.sa Go.Proofs.YtajfcddabkhamaaDoor.sb
set_option linter.unusedVariables false

theorem gP : Tryd.prog.globalNamed "internal/strconv.uint64pow10" = some 3 := by kernel_rfl
theorem T7.keep {G : Nat → Prop} {w w' : World} (h : T7 w) (k : Kp G w w') (hG : ∀ b, G b → 6 ≤ b) : T7 w' := by
  have hb : Below 6 w w' := k.below hG h.t.t.big
  refine ⟨⟨h.t.t.below hb (Nat.le_refl _), fun j hj => (hb.cell (p := ⟨5, j, none⟩) (by show 5 < 6; decide)).trans (h.t.d j hj)⟩, ?_⟩
  have hp := h.p
  unfold Lib.TabIs World.var? at hp ⊢
  rw [gP] at hp ⊢
  simp only [Option.bind_some] at hp ⊢
  rw [hb.block 3 (by decide)]
  exact hp
theorem reads_keep {w w' : World} {v : Value} {xs : List ByteArray} (h : ReadsT w v xs) (hb : ∀ b off n cap, v = .slice (some ⟨b, off, none⟩) n cap → b < w.heap.size → w'.heap[b]? = w.heap[b]?) : ReadsT w' v xs := by
  obtain ⟨a, cap, rfl, hc, h0 | ⟨b, off, rfl, hh⟩⟩ := h
  · exact ⟨a, cap, rfl, hc, .inl h0⟩
  · refine ⟨_, cap, rfl, hc, .inr ⟨b, off, rfl, fun i hi => ?_⟩⟩
    have c1 := hh i hi
    exact (World.cell?_of_block (a := ⟨b, off + i, none⟩) (hb b off _ _ rfl (World.block_lt_of_cell? _ _ c1))).trans c1
-- what a source's answers hang on besides its own blocks
def Dp (lv : Value) : Nat → Prop := fun b => b < 6 ∨ ∃ off n c, lv = .slice (some ⟨b, off, none⟩) n c
-- a source under way: F its own blocks, l what was asked
structure Sj (s : Src) (sb : Nat) (lv : Value) (base : Nat) (av : Value) (F : Nat → Prop) (l : List (Nat × Nat)) (w : World) : Prop where
  q : Lq w sb s lv av
  own : w.ownsRow base 57 2 av l.length (cls l)
  f : ∀ b, F b ↔ (b = sb ∨ av.ownBlock = some b)
  sbq : 6 ≤ sb ∧ sb < base
  lvb : ∀ b off n c, lv = .slice (some ⟨b, off, none⟩) n c → b < base ∧ b ≠ sb
  bq : 6 ≤ base ∧ base ≤ w.heap.size
theorem Sj.keep {s : Src} {sb : Nat} {lv : Value} {base : Nat} {av : Value} {F G : Nat → Prop} {l : List (Nat × Nat)} {w w' : World} (h : Sj s sb lv base av F l w) (k : Kp G w w') (hG : ∀ b, G b → ¬ F b ∧ ¬ Dp lv b) : Sj s sb lv base av F l w' := by
  have nsb : ¬ G sb := fun hg => (hG sb hg).1 ((h.f sb).2 (.inl rfl))
  refine ⟨⟨T7.keep h.q.t k (fun b hb => Nat.le_of_not_lt fun hl => (hG b hb).2 (.inl hl)), (k.block sb h.q.o.lt nsb).trans h.q.o, reads_keep h.q.r (fun b off n cap he hlt => k.block b hlt (fun hg => (hG b hg).2 (.inr ⟨off, n, cap, he⟩))), h.q.x, h.q.n, h.q.c, h.q.k⟩, owns_keep h.own (fun g hg => k.block g (owns_lt h.own hg).1 (fun hgg => (hG g hgg).1 ((h.f g).2 (.inr hg)))), h.f, h.sbq, h.lvb, ⟨h.bq.1, Nat.le_trans h.bq.2 k.size⟩⟩
theorem Sj.later {s : Src} {sb : Nat} {lv : Value} {base : Nat} {av : Value} {F : Nat → Prop} {l : List (Nat × Nat)} {w w' : World} (h : Sj s sb lv base av F l w) (hb : Below w.heap.size w w') : Sj s sb lv base av F l w' := h.keep (G := fun _ => False) (Kp.of_below hb) (fun _ x => x.elim)
theorem Sj.within {s : Src} {sb : Nat} {lv : Value} {base : Nat} {av : Value} {F : Nat → Prop} {l : List (Nat × Nat)} {w : World} (h : Sj s sb lv base av F l w) : ∀ b, F b → b < w.heap.size := by
  intro b hb
  rcases (h.f b).1 hb with rfl | hb
  · exact h.q.o.lt
  · exact (owns_lt h.own hb).1
theorem Sj.dep {s : Src} {sb : Nat} {lv : Value} {base : Nat} {av : Value} {F : Nat → Prop} {l : List (Nat × Nat)} {w : World} (h : Sj s sb lv base av F l w) : ∀ b, Dp lv b → b < w.heap.size := by
  rintro b (hb | ⟨off, n, c, he⟩)
  · have := h.bq; omega
  · have := h.lvb b off n c he; have := h.bq; omega
-- one more was asked
theorem Sj.asked {s : Src} {sb : Nat} {lv : Value} {base : Nat} {av : Value} {F : Nat → Prop} {l : List (Nat × Nat)} {w w7 : World} {a : Nat × Nat} {g cap : Nat} (h : Sj s sb lv base av F l w)
    (ho : w7.ownsRow base 57 2 (.slice (some ⟨g, 0, none⟩) (l.length + 1) cap) (l.length + 1) (cls l ++ cl a)) (hg : w.grownBy w7 av.ownBlock) (hat : av.ownBlock = some g ∨ g = w.heap.size) :
    Sj s sb lv base (.slice (some ⟨g, 0, none⟩) (l.length + 1) cap) (fun b => b = sb ∨ b = g) (l ++ [a]) (w7.setCell ⟨sb, 6, none⟩ (.slice (some ⟨g, 0, none⟩) (l.length + 1) cap)) ∧ Goes F w (fun b => b = sb ∨ b = g) (w7.setCell ⟨sb, 6, none⟩ (.slice (some ⟨g, 0, none⟩) (l.length + 1) cap)) := by
  have old : ∀ b, b < base → w7.heap[b]? = w.heap[b]? := fun b hb => hg.block b (by have := h.bq; omega) (fun e => by have := (owns_lt h.own e.symm).2; omega)
  have hgb : base ≤ g := by
    rcases hat with e | e
    · exact (owns_lt h.own e).2
    · rw [e]; exact h.bq.2
  have K : Kp (fun b => b = sb) w7 (w7.setCell ⟨sb, 6, none⟩ (.slice (some ⟨g, 0, none⟩) (l.length + 1) cap)) := Kp.setCell _ _ _ _ rfl
  have K0 : Kp F w w7 := ⟨hg.os, hg.tape, hg.output, hg.size, fun k hk hn => hg.block k hk (fun e => hn ((h.f k).2 (.inr e.symm)))⟩
  have ho7 : So w7 sb s lv av := (old sb h.sbq.2).trans h.q.o
  refine ⟨⟨⟨?_, ?_, ?_, h.q.x, h.q.n, h.q.c, h.q.k⟩, ?_, ?_, h.sbq, h.lvb, ⟨h.bq.1, Nat.le_trans h.bq.2 (Nat.le_trans hg.size K.size)⟩⟩, ⟨K0.trans (K.mono (fun k hk => by subst hk; exact (h.f _).2 (.inl rfl))), fun b hb => ?_⟩⟩
  · refine T7.keep (T7.keep h.q.t K0 (fun b hb => ?_)) K (fun b hb => by subst hb; exact h.sbq.1)
    rcases (h.f b).1 hb with rfl | hb
    · exact h.sbq.1
    · have := (owns_lt h.own hb).2; have := h.bq; omega
  · show _ = _
    rw [heap_setCell_same _ _ 6 _ _ _ ho7]
    rfl
  · exact reads_keep (reads_keep h.q.r (fun b off n cap he _ => old b (h.lvb b off n cap he).1)) (fun b off n cap he hlt => K.block b hlt (h.lvb b off n cap he).2)
  · rw [List.length_append, cls_app]
    have e : cls [a] = cl a := by unfold cls; simp
    rw [e]
    exact owns_keep ho (fun gg hgg => K.block gg (owns_lt ho hgg).1 (fun e => by have := (owns_lt ho hgg).2; have := h.sbq; omega))
  · intro b
    constructor
    · rintro (rfl | rfl)
      · exact .inl rfl
      · exact .inr rfl
    · rintro (rfl | hb)
      · exact .inl rfl
      · exact .inr (Option.some.inj hb).symm
  · rcases hb with rfl | rfl
    · exact .inl ((h.f _).2 (.inl rfl))
    · rcases hat with e | e
      · exact .inl ((h.f _).2 (.inr e))
      · exact .inr (by omega)
end Go.Proofs.YtajfcddabkhamaaDoor.sc

namespace Go.Proofs.YtajfcddabkhamaaDoor.sd
open Go.RowKit Go.PlainAid Go.Shelf
open Go.Proofs.YtajfcddabkhamaaDoor.pl Go.Proofs.YtajfcddabkhamaaDoor.pi Go.Proofs.YtajfcddabkhamaaDoor.rf Go.Proofs.YtajfcddabkhamaaDoor.pj Go.Proofs.YtajfcddabkhamaaDoor.ca Go.Proofs.YtajfcddabkhamaaDoor.cb Go.Proofs.YtajfcddabkhamaaDoor.cp Go.Proofs.YtajfcddabkhamaaDoor.cs Go.Proofs.YtajfcddabkhamaaDoor.xc Go.Proofs.YtajfcddabkhamaaDoor.ka Go.Proofs.YtajfcddabkhamaaDoor.kb Go.Proofs.YtajfcddabkhamaaDoor.kd Go.Proofs.YtajfcddabkhamaaDoor.ga Go.Proofs.YtajfcddabkhamaaDoor.aa Go.Proofs.YtajfcddabkhamaaDoor.ab Go.Proofs.YtajfcddabkhamaaDoor.tb Go.Proofs.YtajfcddabkhamaaDoor.ac Go.Proofs.YtajfcddabkhamaaDoor.bc Go.Proofs.YtajfcddabkhamaaDoor.bn Go.Proofs.YtajfcddabkhamaaDoor.sa Go.Proofs.YtajfcddabkhamaaDoor.sb Go.Proofs.YtajfcddabkhamaaDoor.sc
set_option linter.unusedVariables false

theorem addr_new (W : World) (a : Nat × Nat) : ∀ (j : Nat) (u : Value), (cl a)[j]? = some u → (W.alloc (.cells #[.int .i64 a.1, .int .i64 a.2] 57)).drew.cell? (Addr.add ⟨W.heap.size, 0, none⟩ j) = some u := two_cells W (.int .i64 a.1) (.int .i64 a.2) 57
theorem one_addr (a : Nat × Nat) : ∀ u ∈ cl a, u.oneCell' = true := by
  intro u hu
  simp only [cl, List.mem_cons, List.not_mem_nil, or_false] at hu
  rcases hu with rfl | rfl <;> rfl
def askS (s : Src) : Nat → Nat × Nat → ByteArray × Int := fun k a => nodeP s k a.1 a.2
set_option maxHeartbeats 6400000 in
set_option maxRecDepth 100000 in
theorem nodeS (s : Src) (sb : Nat) (lv : Value) (base : Nat) (av : Value) (F : Nat → Prop) (l : List (Nat × Nat)) (a : Nat × Nat) (w : World) (hl : l.length < 4294967296) (hok : okA a.1 a.2) (hS : Sj s sb lv base av F l w) :
    Calls Tryd.prog 18 #[.pointer (some ⟨sb, 0, none⟩), .agg #[.int .i64 a.1, .int .i64 a.2]] w fun e w' => e = .returned (.tuple #[.string (askS s (l.length + 1) a).1, .int .i64 (askS s (l.length + 1) a).2]) ∧ ∃ av' F', Sj s sb lv base av' F' (l ++ [a]) w' ∧ Goes F w F' w' := by
  obtain ⟨aL, aI⟩ := a
  obtain ⟨i9, hi, hz0, hz1, hz2⟩ := cs.info_parts hiA
  have HIN : Hid (_ ∧ _ ∧ _ ∧ _) := ⟨hi, hz0, hz1, hz2⟩
  have hk := (okA_nat aL aI).1 hok
  have hI : aI ≤ 4611686018427387904 := by
    have hp := p2 aL
    have : aI + 1 ≤ (aI + 1) * 2 ^ aL := Nat.le_mul_of_pos_right _ hp
    omega
  have BA : Hid (Below w.heap.size w (w.alloc (.cells #[.int .i64 aL, .int .i64 aI] 57))) := (Below.refl _ _).alloc (Nat.le_refl _) _
  obtain ⟨wA, HWA⟩ : ∃ wA, Hid (w.alloc (.cells #[.int .i64 aL, .int .i64 aI] 57) = wA) := ⟨_, rfl⟩
  have HXA : Hid (Bx wA w.heap.size aL aI) := by show Bx _ _ _ _; rw [← HWA.out]; exact bx_new w aL aI
  rw [HWA.out] at BA
  have SA : Hid (Sj s sb lv base av F l wA) := hS.later BA.out
  have BB : Hid (Below wA.heap.size wA (wA.alloc (.cells #[.int .i64 aL, .int .i64 aI] 57)).drew) := below_dN ((Below.refl _ _).alloc (Nat.le_refl _) _) 1
  have SB : Hid (Sj s sb lv base av F l (wA.alloc (.cells #[.int .i64 aL, .int .i64 aI] 57)).drew) := SA.out.later BB.out
  obtain ⟨va, vc, rfl⟩ := own_formS hS.own
  obtain ⟨n, HN⟩ : ∃ n, Hid (l.length = n) := ⟨_, rfl⟩
  have OX : Hid (World.ownsRow (wA.alloc (.cells #[.int .i64 aL, .int .i64 aI] 57)).drew base 57 2 (.slice va l.length vc) l.length (cls l)) := SB.out.own
  have NX : Hid _ := addr_new wA (aL, aI)
  have SZ : Hid (base ≤ (wA.alloc (.cells #[.int .i64 aL, .int .i64 aI] 57)).drew.heap.size) := SB.out.bq.2
  have r6 := SA.out.q.o.cells.2.2.2.2.2.2
  obtain ⟨x1, x2⟩ := HXA.out
  have r6' : (wA.alloc (.cells #[.int .i64 aL, .int .i64 aI] 57)).cell? ⟨sb, 6, none⟩ = some (.slice va l.length vc) := (Below.cell ((Below.refl _ _).alloc (Nat.le_refl _) _) (World.block_lt_of_cell? _ _ r6)).trans r6
  have x1' : (wA.alloc (.cells #[.int .i64 aL, .int .i64 aI] 57)).cell? ⟨w.heap.size, 0, none⟩ = some (.int .i64 aL) := (Below.cell ((Below.refl _ _).alloc (Nat.le_refl _) _) (World.block_lt_of_cell? _ _ x1)).trans x1
  have x2' : (wA.alloc (.cells #[.int .i64 aL, .int .i64 aI] 57)).cell? ⟨w.heap.size, 1, none⟩ = some (.int .i64 aI) := (Below.cell ((Below.refl _ _).alloc (Nat.le_refl _) _) (World.block_lt_of_cell? _ _ x2)).trans x2
  have HNSB : Hid (w.heap.size ≠ sb ∧ w.heap.size < wA.heap.size ∧ ¬ F w.heap.size) := ⟨fun e => by have := hS.q.o.lt; omega, World.block_lt_of_cell? _ _ x1, fun hF => Nat.lt_irrefl _ (hS.within _ hF)⟩
  rw [HN.out] at hl OX r6 r6' SB ⊢
  obtain ⟨A, HA⟩ : ∃ A, Hid (askS s (n + 1) (aL, aI) = A) := ⟨_, rfl⟩
  rw [HA.out]
  clear hS hi hz0 hz1 hz2
  go_enter Tryd.func18, Tryd.ntmps18
  go_wp2_with fail
  rw [HWA.out]
  go_cut [15] (fun _ wx => ∃ g7 cap7, Hid (Sj s sb lv base (.slice (some ⟨g7, 0, none⟩) (n + 1) cap7) (fun b => b = sb ∨ b = g7) (l ++ [(aL, aI)]) wx ∧ Goes F wA (fun b => b = sb ∨ b = g7) wx))
  case first =>
    go_region_law ((refine step_append_lies _ (by rfl) _ _ 23 (by rfl) base 57 i9 (.agg #[.int .i64 0, .int .i64 0]) 2 16 Tryd.underlying23 HIN.out.1 HIN.out.2.1 HIN.out.2.2.1 HIN.out.2.2.2 rfl (by decide) _ n _ (by rfl) OX.out ⟨wA.heap.size, 0, none⟩ 1 1 (cl (aL, aI)) (by rfl) rfl NX.out (one_addr _) (by omega) (by unfold maxLen; omega) (by omega) SZ.out _ rfl ?_; intro g7 cap7 w7 hown7 hgrow7 hlies7 hglt7; have HS7 : Hid (_ ∧ _) := Sj.asked (a := (aL, aI)) SB.out (by rw [HN.out]; exact hown7) hgrow7 hlies7; have HG7 : Hid (Goes F wA (fun b => b = sb ∨ b = g7) (w7.setCell ⟨sb, 6, none⟩ (.slice (some ⟨g7, 0, none⟩) (l.length + 1) cap7))) := (Goes.of_below BB.out).trans HS7.out.2; have q0 : So w7 sb s lv (.slice va n vc) := (hgrow7.block sb (by have := SB.out.q.o.lt; exact this) (fun e => by have := (owns_lt OX.out e.symm).2; have := SB.out.sbq; omega)).trans SB.out.q.o; have q1 := q0.cells.2.2.2.2.2.2; have q2 := frozen_of_row w7 sb 6 _ _ q0; clear hown7 hgrow7 hlies7 hglt7 q0))
    all_goals
      go_wp2_with fail
      go_meet
      exact ⟨g7, cap7, by have h1 := HS7.out.1; rw [HN.out] at h1; exact h1, by have h1 := HG7.out; rw [HN.out] at h1; exact h1⟩
  case rest =>
    obtain ⟨g7, cap7, HS⟩ := hcut
    obtain ⟨wd, sz, ls, made, fails, code⟩ := s
    have LC : Hid (Calls _ _ _ _ _) := Go.Proofs.YtajfcddabkhamaaDoor.sb.look ⟨wd, sz, ls, made, fails, code⟩ sb lv _ (aL : Int) (aI : Int) (i64_nat (by omega)) (i64_nat hI) wc HS.out.1.q
    obtain ⟨P, HP⟩ : ∃ P, Hid (lookP ⟨wd, sz, ls, made, fails, code⟩ aL aI = P) := ⟨_, rfl⟩
    rw [HP.out] at LC
    have HAA : Hid (A = if P.2 ≠ 0 ∨ ((n + 1 : Nat) : Int) ≠ fails then P else if code ≠ 0 then (ByteArray.empty, code) else if P.1 = ByteArray.empty then (⟨#[120]⟩, 0) else (P.1.extract 1 P.1.size, 0)) := by
      show _ = _
      rw [← HA.out, ← HP.out]
      rfl
    obtain ⟨h, c⟩ := P
    have y1 := HS.out.2.cell x1 HNSB.out.2.2
    have y2 := HS.out.2.cell x2 HNSB.out.2.2
    have hIn : Hid (Goes F w (fun b => b = sb ∨ b = g7) wc) := (Goes.of_below BA.out).trans HS.out.2
    clear x1 x2 x1' x2' r6 r6' OX NX SZ SB SA BB HXA
    go_wp2_with fail
    refine LC.out.mono ?_
    rintro e w2 ⟨rfl, hb2⟩
    have S2 : Hid (Sj ⟨wd, sz, ls, made, fails, code⟩ sb lv base (.slice (some ⟨g7, 0, none⟩) (n + 1) cap7) (fun b => b = sb ∨ b = g7) (l ++ [(aL, aI)]) w2 ∧ Goes F w (fun b => b = sb ∨ b = g7) w2) := ⟨HS.out.1.later hb2, hIn.out.trans (Goes.of_below hb2)⟩
    obtain ⟨k0, k1, k2, k3, k4, k5, k6⟩ := S2.out.1.q.o.cells
    dsimp only at k0 k1 k2 k3 k4 k5 k6
    have HD : Hid (∀ m, Sj ⟨wd, sz, ls, made, fails, code⟩ sb lv base (.slice (some ⟨g7, 0, none⟩) (n + 1) cap7) (fun b => b = sb ∨ b = g7) (l ++ [(aL, aI)]) (w2.drewN m) ∧ Goes F w (fun b => b = sb ∨ b = g7) (w2.drewN m)) := fun m => ⟨S2.out.1.later (below_dN (Below.refl _ _) m), S2.out.2.trans (Goes.of_below (below_dN (Below.refl _ _) m))⟩
    have HD2 : Hid (∀ m m', Sj ⟨wd, sz, ls, made, fails, code⟩ sb lv base (.slice (some ⟨g7, 0, none⟩) (n + 1) cap7) (fun b => b = sb ∨ b = g7) (l ++ [(aL, aI)]) ((w2.drewN m).drewN m') ∧ Goes F w (fun b => b = sb ∨ b = g7) ((w2.drewN m).drewN m')) := fun m m' => ⟨(HD.out m).1.later (below_dN (Below.refl _ _) m'), (HD.out m).2.trans (Goes.of_below (below_dN (Below.refl _ _) m'))⟩
    clear hb2 y1 y2 hIn HS
    by_cases hc : c = 0
    · subst hc
      by_cases hf : ((n + 1 : Nat) : Int) = fails
      · have qf1 : (((n + 1 : Nat) : Int) == fails) = true := by rw [beq_iff_eq]; exact hf
        have qf2 : ((n : Int) + 1 == fails) = true := by rw [beq_iff_eq]; omega
        by_cases hcd : code = 0
        · have qc : (code == 0) = true := by rw [beq_iff_eq]; exact hcd
          by_cases he : h = (⟨#[]⟩ : ByteArray)
          · have qe : (h.toList == []) = true := by rw [beqLit]; exact decide_eq_true he
            have qe1 : (h.toList == (⟨#[]⟩ : ByteArray).toList) = true := by rw [beqL]; exact decide_eq_true he
            have HE : Hid (A = (⟨#[120]⟩, 0)) := by
              show _ = _
              rw [HAA.out, if_neg (by rintro (z | z); exact z rfl; exact z hf), if_neg (fun z => z hcd), if_pos (show h = ByteArray.empty from he)]
            clear hf hcd he
            go_wp2_with fail
            go_quiet (fail)
            go_wp2
            go_ret2
            exact ⟨by rw [HE.out]; rfl, _, _, (HD.out _).1, (HD.out _).2⟩
          · have qe : (h.toList == []) = false := by rw [beqLit]; exact decide_eq_false he
            have qe1 : (h.toList == (⟨#[]⟩ : ByteArray).toList) = false := by rw [beqL]; exact decide_eq_false he
            have hs1 : 1 ≤ h.size := by
              rcases Nat.eq_zero_or_pos h.size with z | z
              · exact absurd (ByteArray.ext (by have : h.data.size = 0 := z; exact Array.eq_empty_of_size_eq_zero this)) he
              · exact z
            have hs2 : (1 : Int) ≤ h.size := by omega
            have HE : Hid (A = (h.extract 1 h.size, 0)) := by
              show _ = _
              rw [HAA.out, if_neg (by rintro (z | z); exact z rfl; exact z hf), if_neg (fun z => z hcd), if_neg (show ¬ h = ByteArray.empty from he)]
            clear hf hcd he
            go_wp2_with fail
            go_quiet (fail)
            go_wp2
            go_ret2
            exact ⟨by rw [HE.out]; rfl, _, _, (HD.out _).1, (HD.out _).2⟩
        · have qc : (code == 0) = false := by rw [beq_eq_false_iff_ne]; exact hcd
          have HE : Hid (A = (ByteArray.empty, code)) := by
            show _ = _
            rw [HAA.out, if_neg (by rintro (z | z); exact z rfl; exact z hf), if_pos hcd]
          clear hf hcd
          go_wp2_with fail
          go_quiet (fail)
          go_wp2_with fail
          go_quiet (fail)
          go_wp2
          go_ret2
          exact ⟨by rw [HE.out]; rfl, _, _, (HD2.out _ _).1, (HD2.out _ _).2⟩
      · have qf1 : (((n + 1 : Nat) : Int) == fails) = false := by rw [beq_eq_false_iff_ne]; exact hf
        have qf2 : ((n : Int) + 1 == fails) = false := by rw [beq_eq_false_iff_ne]; omega
        have HE : Hid (A = (h, 0)) := by
          show _ = _
          rw [HAA.out, if_pos (.inr hf)]
        clear hf
        go_wp2_with fail
        go_quiet (fail)
        go_wp2
        go_ret2
        exact ⟨by rw [HE.out]; rfl, _, _, (HD.out _).1, (HD.out _).2⟩
    · have q0 : (c == 0) = false := by rw [beq_eq_false_iff_ne]; exact hc
      have HE : Hid (A = (h, c)) := by
        show _ = _
        rw [HAA.out, if_pos (.inl hc)]
      have q1 : (c != 0) = true := by rw [bne, q0]; rfl
      have q2 : decide (c = 0) = false := decide_eq_false hc
      go_wp2_with fail
      go_quiet (fail)
      go_wp2
      go_ret2
      exact ⟨by rw [HE.out]; rfl, _, _, (HD.out _).1, (HD.out _).2⟩
end Go.Proofs.YtajfcddabkhamaaDoor.sd

namespace Go.Proofs.YtajfcddabkhamaaDoor.se
open Go.RowKit Go.PlainAid Go.Shelf
open Go.Proofs.YtajfcddabkhamaaDoor.pl Go.Proofs.YtajfcddabkhamaaDoor.pi Go.Proofs.YtajfcddabkhamaaDoor.rf Go.Proofs.YtajfcddabkhamaaDoor.pj Go.Proofs.YtajfcddabkhamaaDoor.ca Go.Proofs.YtajfcddabkhamaaDoor.cb Go.Proofs.YtajfcddabkhamaaDoor.cp Go.Proofs.YtajfcddabkhamaaDoor.cs Go.Proofs.YtajfcddabkhamaaDoor.xc Go.Proofs.YtajfcddabkhamaaDoor.ka Go.Proofs.YtajfcddabkhamaaDoor.kb Go.Proofs.YtajfcddabkhamaaDoor.ga Go.Proofs.YtajfcddabkhamaaDoor.aa Go.Proofs.YtajfcddabkhamaaDoor.ab Go.Proofs.YtajfcddabkhamaaDoor.tb Go.Proofs.YtajfcddabkhamaaDoor.ac Go.Proofs.YtajfcddabkhamaaDoor.bc Go.Proofs.YtajfcddabkhamaaDoor.sa Go.Proofs.YtajfcddabkhamaaDoor.sb Go.Proofs.YtajfcddabkhamaaDoor.sc Go.Proofs.YtajfcddabkhamaaDoor.sd
set_option linter.unusedVariables false

theorem look_fits (s : Src) (L I : Int) : 0 ≤ (lookP s L I).2 ∧ (lookP s L I).2 ≤ 80 := by
  unfold lookP
  split
  · split <;> simp
  · simp
theorem node_fits (s : Src) (hc : i64 s.code) (k : Nat) (a : Nat × Nat) : -9223372036854775808 ≤ (askS s k a).2 ∧ (askS s k a).2 ≤ 9223372036854775807 := by
  have := look_fits s a.1 a.2
  have h1 := hc.1
  have h2 := hc.2
  unfold askS nodeP
  split
  · omega
  · split
    · exact ⟨h1, h2⟩
    · split <;> simp
-- the document's own source
def SJ (s : Src) (sb : Nat) (lv : Value) (base : Nat) : (Nat → Prop) → List (Nat × Nat) → World → Prop := fun F l w => ∃ av, Sj s sb lv base av F l w
theorem srcR (s : Src) (sb : Nat) (lv : Value) (base : Nat) (hc : i64 s.code) : Rd 18 #[.pointer (some ⟨sb, 0, none⟩)] #[] (askS s) (SJ s sb lv base) 4294967296 (Dp lv) where
  enter := fun args w => by simp [go_sem]
  call := fun F l a w hl hok ⟨av, h⟩ => by
    refine (nodeS s sb lv base av F l a w hl hok h).mono ?_
    rintro e w' ⟨rfl, av', F', h', g'⟩
    exact ⟨rfl, F', ⟨av', h'⟩, g'⟩
  keep := fun {F G l w w'} ⟨av, h⟩ k hG => ⟨av, h.keep k hG⟩
  big := fun {F l w} ⟨av, h⟩ => h.dep
  within := fun {F l w} ⟨av, h⟩ => h.within
  tab := fun {F l w} ⟨av, h⟩ => h.q.t.t.tb
  fits := fun k a => node_fits s hc k a
-- a reader of it
structure TJ (s : Src) (sb : Nat) (lv : Value) (base tb : Nat) (F : Nat → Prop) (l : List (Nat × Nat)) (w : World) : Prop where
  j : SJ s sb lv base F l w
  c : w.cell? ⟨tb, 0, none⟩ = some (.pointer (some ⟨sb, 0, none⟩))
  o : ¬ F tb
theorem teller (s : Src) (sb : Nat) (lv : Value) (base tb : Nat) (F : Nat → Prop) (l : List (Nat × Nat)) (a : Nat × Nat) (w : World) (hl : l.length < 4294967296) (hok : okA a.1 a.2) (hS : TJ s sb lv base tb F l w) :
    Calls Tryd.prog 14 #[.pointer (some ⟨tb, 0, none⟩), .agg #[.int .i64 a.1, .int .i64 a.2]] w fun e w' => e = .returned (.tuple #[.string (askS s (l.length + 1) a).1, .int .i64 (askS s (l.length + 1) a).2]) ∧ ∃ F', TJ s sb lv base tb F' (l ++ [a]) w' ∧ Goes F w F' w' := by
  obtain ⟨aL, aI⟩ := a
  have BA : Hid (Below w.heap.size w (w.alloc (.cells #[.int .i64 aL, .int .i64 aI] 57))) := (Below.refl _ _).alloc (Nat.le_refl _) _
  obtain ⟨av, h0⟩ := hS.j
  have SA : Hid (Sj s sb lv base av F l (w.alloc (.cells #[.int .i64 aL, .int .i64 aI] 57)).drew) := h0.later (below_dN BA.out 1)
  have NC : Hid (Calls _ _ _ _ _) := nodeS s sb lv base av F l (aL, aI) (w.alloc (.cells #[.int .i64 aL, .int .i64 aI] 57)).drew hl hok SA.out
  have c0 : (w.alloc (.cells #[.int .i64 aL, .int .i64 aI] 57)).cell? ⟨tb, 0, none⟩ = some (.pointer (some ⟨sb, 0, none⟩)) := (BA.out.cell (World.block_lt_of_cell? _ _ hS.c)).trans hS.c
  have HC : Hid ((w.alloc (.cells #[.int .i64 aL, .int .i64 aI] 57)).cell? ⟨tb, 0, none⟩ = some (.pointer (some ⟨sb, 0, none⟩)) ∧ ¬ F tb ∧ tb < w.heap.size) := ⟨c0, hS.o, World.block_lt_of_cell? _ _ hS.c⟩
  obtain ⟨A, HA⟩ : ∃ A, Hid (askS s (l.length + 1) (aL, aI) = A) := ⟨_, rfl⟩
  rw [HA.out] at NC ⊢
  obtain ⟨h, c⟩ := A
  dsimp only at NC
  clear hS hok
  go_enter Tryd.func14, Tryd.ntmps14
  go_wp2_with fail
  go_region_with (first | (go_at_call 18; refine NC.out.mono ?_; rintro e w' ⟨rfl, av', F', h', g'⟩; have H9 : Hid (TJ s sb lv base tb F' (l ++ [(aL, aI)]) w' ∧ Goes F w F' w') := (by have g2 : Goes F (w.alloc (.cells #[.int .i64 aL, .int .i64 aI] 57)) F' w' := (Goes.of_below (below_dN (Below.refl _ _) 1)).trans g'; exact ⟨⟨⟨av', h'⟩, g2.cell HC.out.1 HC.out.2.1, g2.out (by simp; have := HC.out.2.2; omega) HC.out.2.1⟩, (Goes.of_below BA.out).trans g2⟩); clear h' g'))
  all_goals (
    go_wp2
    go_ret2
    exact ⟨rfl, F', H9.out.1, H9.out.2⟩)
theorem telR (s : Src) (sb : Nat) (lv : Value) (base tb : Nat) (hc : i64 s.code) : Rd 14 #[.pointer (some ⟨tb, 0, none⟩)] #[] (askS s) (TJ s sb lv base tb) 4294967296 (fun b => Dp lv b ∨ b = tb) where
  enter := fun args w => by simp [go_sem]
  call := fun F l a w hl hok h => teller s sb lv base tb F l a w hl hok h
  keep := fun {F G l w w'} h k hG => ⟨(srcR s sb lv base hc).keep h.j k (fun b hb => ⟨(hG b hb).1, fun hd => (hG b hb).2 (.inl hd)⟩), k.cell h.c (fun hg => (hG tb hg).2 (.inr rfl)), h.o⟩
  big := fun {F l w} h b hb => by
    rcases hb with hb | rfl
    · exact (srcR s sb lv base hc).big h.j b hb
    · exact World.block_lt_of_cell? _ _ h.c
  within := fun {F l w} h => (srcR s sb lv base hc).within h.j
  tab := fun {F l w} h => (srcR s sb lv base hc).tab h.j
  fits := fun k a => node_fits s hc k a
end Go.Proofs.YtajfcddabkhamaaDoor.se

namespace Go.Proofs.YtajfcddabkhamaaDoor.cc
open Go.RowKit Go.PlainAid
open Go.Proofs.YtajfcddabkhamaaDoor.ca Go.Proofs.YtajfcddabkhamaaDoor.cb Go.Proofs.YtajfcddabkhamaaDoor.cp Go.Proofs.YtajfcddabkhamaaDoor.cs
set_option linter.unusedVariables false

end Go.Proofs.YtajfcddabkhamaaDoor.cc

namespace Go.Proofs.YtajfcddabkhamaaDoor.cd
open Go.RowKit Go.PlainAid
open Go.Proofs.YtajfcddabkhamaaDoor.ca Go.Proofs.YtajfcddabkhamaaDoor.cb Go.Proofs.YtajfcddabkhamaaDoor.cp Go.Proofs.YtajfcddabkhamaaDoor.cs Go.Proofs.YtajfcddabkhamaaDoor.cc
set_option linter.unusedVariables false

end Go.Proofs.YtajfcddabkhamaaDoor.cd

namespace Go.Proofs.YtajfcddabkhamaaDoor.ke
open Go.RowKit Go.PlainAid
open Go.Proofs.YtajfcddabkhamaaDoor.pl Go.Proofs.YtajfcddabkhamaaDoor.pi Go.Proofs.YtajfcddabkhamaaDoor.pj Go.Proofs.YtajfcddabkhamaaDoor.rf
open Go.Proofs.YtajfcddabkhamaaDoor.ca Go.Proofs.YtajfcddabkhamaaDoor.cb Go.Proofs.YtajfcddabkhamaaDoor.cp Go.Proofs.YtajfcddabkhamaaDoor.ka Go.Proofs.YtajfcddabkhamaaDoor.kb
set_option linter.unusedVariables false

-- the document's Fold
theorem foldP_snoc {α : Type} (E : α) (N : α → α → α) (xs : List α) (k : Nat) (hk : k + 1 < xs.length) : foldP E N (xs.drop k) = N (xs[k]'(by omega)) (foldP E N (xs.drop (k + 1))) := by
  rw [List.drop_eq_getElem_cons (show k < xs.length by omega), List.drop_eq_getElem_cons hk]
  rfl
theorem foldP_last {α : Type} (E : α) (N : α → α → α) (xs : List α) (k : Nat) (hk : k + 1 = xs.length) : foldP E N (xs.drop k) = xs[k]'(by omega) := by
  rw [List.drop_eq_getElem_cons (show k < xs.length by omega), List.drop_of_length_le (by omega)]
  rfl
end Go.Proofs.YtajfcddabkhamaaDoor.ke

namespace Go.Proofs.YtajfcddabkhamaaDoor.bd
open Go.RowKit Go.PlainAid
open Go.Proofs.YtajfcddabkhamaaDoor.pl Go.Proofs.YtajfcddabkhamaaDoor.pi Go.Proofs.YtajfcddabkhamaaDoor.rf Go.Proofs.YtajfcddabkhamaaDoor.pj Go.Proofs.YtajfcddabkhamaaDoor.ca Go.Proofs.YtajfcddabkhamaaDoor.cb Go.Proofs.YtajfcddabkhamaaDoor.cp Go.Proofs.YtajfcddabkhamaaDoor.cs Go.Proofs.YtajfcddabkhamaaDoor.ct Go.Proofs.YtajfcddabkhamaaDoor.xc Go.Proofs.YtajfcddabkhamaaDoor.xf Go.Proofs.YtajfcddabkhamaaDoor.ka Go.Proofs.YtajfcddabkhamaaDoor.kb Go.Proofs.YtajfcddabkhamaaDoor.kc Go.Proofs.YtajfcddabkhamaaDoor.ga Go.Proofs.YtajfcddabkhamaaDoor.aa Go.Proofs.YtajfcddabkhamaaDoor.ab Go.Proofs.YtajfcddabkhamaaDoor.tb Go.Proofs.YtajfcddabkhamaaDoor.ac Go.Proofs.YtajfcddabkhamaaDoor.ba Go.Proofs.YtajfcddabkhamaaDoor.bf Go.Proofs.YtajfcddabkhamaaDoor.bc
set_option linter.unusedVariables false

theorem three_box (w : World) (x y z : Value) (t : TypeId) : (w.alloc (.cells #[x, y, z] t)).cell? ⟨w.heap.size, 0, none⟩ = some x ∧ (w.alloc (.cells #[x, y, z] t)).cell? ⟨w.heap.size, 1, none⟩ = some y ∧ (w.alloc (.cells #[x, y, z] t)).cell? ⟨w.heap.size, 2, none⟩ = some z := by
  refine ⟨?_, ?_, ?_⟩ <;> (rw [World.cell?_alloc_at _ _ _ _ rfl]; rfl)
theorem cov_in (p hi : Nat) : ∀ a ∈ cov p hi, p ≤ a.2 * 2 ^ a.1 ∧ (a.2 + 1) * 2 ^ a.1 ≤ hi ∧ a.1 ≤ 62 := by
  refine cov_fold (p := p) (hi := hi) (fun p hi => ∀ a ∈ cov p hi, p ≤ a.2 * 2 ^ a.1 ∧ (a.2 + 1) * 2 ^ a.1 ≤ hi ∧ a.1 ≤ 62) ?_ ?_
  · intro p h a ha
    rw [cov_end h] at ha
    cases ha
  · intro p k hlt hl ih a ha
    rw [cov_at hlt hl] at ha
    rcases List.mem_cons.1 ha with rfl | ha
    · have e : p / 2 ^ k * 2 ^ k = p := Nat.div_mul_cancel hl.2.1
      refine ⟨by show p ≤ p / 2 ^ k * 2 ^ k; omega, ?_, hl.1⟩
      show (p / 2 ^ k + 1) * 2 ^ k ≤ hi
      rw [Nat.add_mul, e, Nat.one_mul]
      have := hl.2.2.1
      omega
    · have := ih a ha
      exact ⟨by have := p2 k; omega, this.2⟩
theorem cov_ok {a b : Nat} (hb : b ≤ 4611686018427387904) {x : Nat × Nat} (h : x ∈ cov a b) : okA x.1 x.2 := by
  have := cov_in a b x h
  exact (okA_nat _ _).2 ⟨this.2.2, by omega⟩
section
variable {g : Nat} {fb lb : Array Value} {ask : Nat → Nat × Nat → ByteArray × Int} {J : (Nat → Prop) → List (Nat × Nat) → World → Prop} {N : Nat} {D : Nat → Prop}
end
end Go.Proofs.YtajfcddabkhamaaDoor.bd

namespace Go.Proofs.YtajfcddabkhamaaDoor.sf
open Go.RowKit Go.PlainAid Go.Shelf
open Go.Proofs.YtajfcddabkhamaaDoor.pl Go.Proofs.YtajfcddabkhamaaDoor.pi Go.Proofs.YtajfcddabkhamaaDoor.rf Go.Proofs.YtajfcddabkhamaaDoor.pj Go.Proofs.YtajfcddabkhamaaDoor.ca Go.Proofs.YtajfcddabkhamaaDoor.cb Go.Proofs.YtajfcddabkhamaaDoor.cp Go.Proofs.YtajfcddabkhamaaDoor.cs Go.Proofs.YtajfcddabkhamaaDoor.cd Go.Proofs.YtajfcddabkhamaaDoor.xc Go.Proofs.YtajfcddabkhamaaDoor.ka Go.Proofs.YtajfcddabkhamaaDoor.kb Go.Proofs.YtajfcddabkhamaaDoor.ke Go.Proofs.YtajfcddabkhamaaDoor.ga Go.Proofs.YtajfcddabkhamaaDoor.aa Go.Proofs.YtajfcddabkhamaaDoor.ab Go.Proofs.YtajfcddabkhamaaDoor.tb Go.Proofs.YtajfcddabkhamaaDoor.ac Go.Proofs.YtajfcddabkhamaaDoor.bc Go.Proofs.YtajfcddabkhamaaDoor.bd Go.Proofs.YtajfcddabkhamaaDoor.sa Go.Proofs.YtajfcddabkhamaaDoor.sb Go.Proofs.YtajfcddabkhamaaDoor.sc Go.Proofs.YtajfcddabkhamaaDoor.sd Go.Proofs.YtajfcddabkhamaaDoor.se
set_option linter.unusedVariables false

theorem SJ.cells {s : Src} {sb : Nat} {lv : Value} {base : Nat} {F : Nat → Prop} {l : List (Nat × Nat)} {w : World} (h : SJ s sb lv base F l w) : w.cell? ⟨sb, 0, none⟩ = some (.int .i64 s.wd) ∧ w.cell? ⟨sb, 1, none⟩ = some (.int .i64 s.sz) := by
  obtain ⟨av, h⟩ := h
  have := h.q.o.cells
  exact ⟨this.1, this.2.1⟩
-- asking for a part's nodes: what holds ahead of each
structure Hd (s : Src) (sb : Nat) (lv : Value) (sbase : Nat) (nv : Value) (F0 : Nat → Prop) (w0 : World) (l0 L : List (Nat × Nat)) (base : Nat) (k : Nat) (u : Value) (wr : World) (F : Nat → Prop) (l : List (Nat × Nat)) (acc : List ByteArray) : Prop where
  j : SJ s sb lv sbase F l wr
  go : Goes F0 w0 F wr
  nodes : ReadsA wr nv L
  nout : ∀ b off n cap, nv = .slice (some ⟨b, off, none⟩) n cap → ¬ F b ∧ b < base
  own : wr.ownsRow base 9 1 u k (acc.map Value.string)
  bes : Beside F u
  base_le : w0.heap.size ≤ base ∧ base ≤ wr.heap.size
  bx : ∀ b, Dp lv b → b < w0.heap.size
  kk : k ≤ L.length ∧ acc.length = k ∧ l.length = l0.length + k
  eq : tell (okw s.wd) (askS s) l0 L = (acc ++ (tell (okw s.wd) (askS s) l (L.drop k)).1, (tell (okw s.wd) (askS s) l (L.drop k)).2)
  fit : ∀ x ∈ acc, x.size ≤ 1048576
end Go.Proofs.YtajfcddabkhamaaDoor.sf
