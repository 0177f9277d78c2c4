import Derived.Test.YtlkkibiedlakfaaGreatE1
import Derived.Lib.BufferRead
import Derived.Laws.OwnMore
import Derived.Maps.AppendAt
import Derived.Deep.RegionHeldLaw
import Derived.Deep.RegionHeld3
import Derived.Deep.RegionLaw
import Derived.Test.YtlkkibiedlakfaaGreatE3
namespace Go.Proofs.YtlkkibiedlakfaaGreat.ua
open Go.RowKit Go.PlainAid Go.Maps Go.Shelf
open Go.Proofs.YtlkkibiedlakfaaGreat.ca Go.Proofs.YtlkkibiedlakfaaGreat.cb Go.Proofs.YtlkkibiedlakfaaGreat.cp Go.Proofs.YtlkkibiedlakfaaGreat.kp Go.Proofs.YtlkkibiedlakfaaGreat.ka Go.Proofs.YtlkkibiedlakfaaGreat.ya Go.Proofs.YtlkkibiedlakfaaGreat.yb Go.Proofs.YtlkkibiedlakfaaGreat.yc Go.Proofs.YtlkkibiedlakfaaGreat.yd Go.Proofs.YtlkkibiedlakfaaGreat.ye Go.Proofs.YtlkkibiedlakfaaGreat.yf Go.Proofs.YtlkkibiedlakfaaGreat.yi Go.Proofs.YtlkkibiedlakfaaGreat.yo Go.Proofs.YtlkkibiedlakfaaGreat.yp Go.Proofs.YtlkkibiedlakfaaGreat.zf Go.Proofs.YtlkkibiedlakfaaGreat.zg Go.Proofs.YtlkkibiedlakfaaGreat.xa Go.Proofs.YtlkkibiedlakfaaGreat.xb Go.Proofs.YtlkkibiedlakfaaGreat.xc Go.Proofs.YtlkkibiedlakfaaGreat.xi Go.Proofs.YtlkkibiedlakfaaGreat.xj
set_option linter.unusedVariables false
set_option linter.unusedSimpArgs false
-- a mark: some text
set_option maxRecDepth 40000 in
set_option maxHeartbeats 3200000 in
theorem markedC (n : Nat) (w : World) (hn : n ≤ 1000) : Calls Tryz.prog 32 #[.int .i64 n] w fun e w' => (∃ x : ByteArray, e = .returned (.string x)) ∧ Below w.heap.size w w' := by
  obtain ⟨i0, hi, hz0, hz1, hz2⟩ := info_parts info_u8
  have HIN : Hid (_ ∧ _ ∧ _ ∧ _) := ⟨hi, hz0, hz1, hz2⟩
  have CV0 : ∀ W, (convert 125 9 (.slice none 0 0)).run Tryz.prog W = .ok (.string ⟨#[]⟩) W := fun W => Lib.run_convert_nil_bytes W _ _ _ 0 Tryz.underlying125 Tryz.underlying5 Tryz.underlying9
  clear hi hz0 hz1 hz2
  go_enter Tryz.func32, Tryz.ntmps32
  go_wp2
  go_loopw [0, 3] (fun nv bv wr => ∃ (k : Nat) (l : List UInt8), l.length + k ≤ 1000 ∧ nv = .int .i64 k ∧ Hid (wr.ownsRow w.heap.size 5 1 bv l.length (bc l) ∧ Below w.heap.size w wr) ∧ (l = [] → bv = .slice none 0 0)) (fun nv _ _ => (intOf nv).toNat)
  case atStart => exact ⟨n, [], by simpa using hn, rfl, ⟨World.ownsRow_nil _ _ _ _, Below.refl _ _⟩, fun _ => rfl⟩
  case round =>
    obtain ⟨k, l, hk, rfl, HH, hnil⟩ := hrel
    obtain ⟨bv, rfl⟩ : ∃ v, v = u3 := ⟨_, rfl⟩
    obtain ⟨w1, rfl⟩ : ∃ v, v = wr := ⟨_, rfl⟩
    by_cases hlt : 0 < k
    · have hlt' : (0 : Int) < (k : Int) := by omega
      obtain ⟨r, HR⟩ : ∃ r : Nat, Hid (k % 26 = r) := ⟨_, rfl⟩
      obtain ⟨q, HQ⟩ : ∃ r : Nat, Hid (k / 26 = r) := ⟨_, rfl⟩
      have hr : (k : Int) % 26 = (r : Int) := by have := HR.out; omega
      have hq : (k : Int) / 26 = (q : Int) := by have := HQ.out; omega
      have hrt : Int.tmod (k : Int) 26 = (r : Int) := by rw [Int.tmod_eq_emod_of_nonneg (by omega)]; exact hr
      have hqt : Int.tdiv (k : Int) 26 = (q : Int) := by rw [Int.tdiv_eq_ediv_of_nonneg (by omega)]; exact hq
      have hr2 : r < 26 := by have := HR.out; omega
      have hq2 : q < k := by have := HQ.out; omega
      obtain ⟨c, HC⟩ : ∃ c : Nat, Hid (97 + r = c) := ⟨_, rfl⟩
      have g2 : (97 : Int) + (r : Int) = (c : Int) := by have := HC.out; omega
      have g3 : IntKind.u8.wrap (c : Int) = c := by rw [IntKind.wrap_u8']; have := HC.out; omega
      have g4 : IntKind.i64.wrap (c : Int) = c := by rw [IntKind.wrap_i64]; have := HC.out; omega
      have hc : c < 256 := by have := HC.out; omega
      obtain ⟨N, HN⟩ : ∃ N, Hid (l.length = N) := ⟨_, rfl⟩
      have hN : N ≤ 1000 := by have := HN.out; omega
      have O1 : Hid ((w1.alloc (.cells #[.int .u8 (c : Int)] 5)).ownsRow w.heap.size 5 1 bv N (bc l) ∧ Below w.heap.size w (w1.alloc (.cells #[.int .u8 (c : Int)] 5))) := by
        have b := (Below.refl w1.heap.size w1).alloc (Nat.le_refl _) (.cells #[.int .u8 (c : Int)] 5)
        exact ⟨by rw [← HN.out]; exact own_later HH.out.1 b, over HH.out.2 b⟩
      have hbw : w.heap.size ≤ w1.heap.size := HH.out.2.size
      clear hnil HH
      go_wp2_with (at_builtin; (refine wpList_append_own _ rfl _ _ 125 rfl w.heap.size 5 i0 (.int .u8 0) 1 1 Tryz.underlying125 HIN.out.1 HIN.out.2.1 HIN.out.2.2.1 HIN.out.2.2.2 rfl (by decide) _ N _ rfl O1.out.1 ⟨w1.heap.size, 0, none⟩ 1 1 [.int .u8 (c : Int)] rfl rfl (new_text _ _ _) (one_i _) (by unfold maxLen; omega) (by omega) (by simp; try omega) ?_; intro v1 w2 ho hg hnn; have HO1 : Hid (World.ownsRow _ _ _ _ _ _ _) := ho; have HB1 : Hid (Below w.heap.size w w2) := below_grownBy O1.out.2 hg (Nat.le_refl _) (fun i hi => (O1.out.1.lt i hi).1); clear ho hg hnn))
      go_roundw
      case rel => exact ⟨q, l ++ [UInt8.ofNat c], by rw [List.length_append, HN.out]; simp only [List.length_singleton]; have := HN.out; omega, by first | rfl | go_num, ⟨(by rw [List.length_append, HN.out]; have h2 : bc (l ++ [UInt8.ofNat c]) = bc l ++ [.int .u8 (c : Int)] := (by simp [bc, Lib.byteCells]; omega); rw [h2]; exact HO1.out), HB1.out⟩, fun h => absurd h (by simp)⟩
      case measure => simp [intOf]; omega
    · have hlt' : ¬ (0 : Int) < (k : Int) := by omega
      have HB : Hid (Below w.heap.size w w1) := HH.out.2
      by_cases hl : l = []
      · have := hnil hl
        subst this
        have e1 := CV0 w1
        clear HH hnil
        go_wp2
        go_ret
        exact ⟨⟨_, rfl⟩, HB.out⟩
      · have e1 := conv_own HH.out.1 (List.length_pos_iff.2 hl)
        obtain ⟨va, vc, hv⟩ : ∃ va vc, bv = .slice va l.length vc := by
          rcases HH.out.1.2 with ⟨e, e2⟩ | ⟨g, cap, cur, e, _⟩
          · exact absurd (List.length_eq_zero_iff.1 e2) hl
          · exact ⟨_, _, e⟩
        subst hv
        obtain ⟨N, HN⟩ : ∃ N, Hid (l.length = N) := ⟨_, rfl⟩
        rw [HN.out] at e1 ⊢
        obtain ⟨tt, HT⟩ : ∃ t, Hid (tx l = t) := ⟨_, rfl⟩
        rw [HT.out] at e1
        have ht : tt.size ≤ 1000 := by rw [← HT.out, tx_size]; omega
        clear HH hnil
        go_wp2
        go_ret
        exact ⟨⟨_, rfl⟩, HB.out⟩
end Go.Proofs.YtlkkibiedlakfaaGreat.ua

namespace Go.Proofs.YtlkkibiedlakfaaGreat.us
open Go.RowKit Go.PlainAid
open Go.Proofs.YtlkkibiedlakfaaGreat.cp Go.Proofs.YtlkkibiedlakfaaGreat.ka
set_option linter.unusedVariables false

-- an append, and what stands of the rows that share the block (elements of any size)
theorem run_appS {P : Program} (w : World) (B sz : Nat) (t ty e : TypeId) (i : TypeInfo) (z : Value) (bytes : Nat) (ht : P.underlying t = some (.slice e)) (hi : P.info? e = some i) (hz : i.zero = some z)
    (hsize : i.size = sz) (hby : i.bytes = bytes) (hzs : z.cells.size = sz) (hsz : 0 < sz) (v : Value) (n : Nat) (xs : List Value) (hown : w.ownsRow B e sz v n xs)
    (a : Addr) (m c : Nat) (news : List Value) (hl : news.length = m * sz) (hnews : ∀ j u, news[j]? = some u → w.cell? (a.add j) = some u) (h1 : ∀ u ∈ news, u.oneCell' = true) (h63 : n + m ≤ maxLen) (hbytes : (n + m) * bytes ≤ 140737488355328) (hB : B ≤ w.heap.size) :
    ∃ v' w', (Builtin.append_ #[t, t] ty #[v, .slice (some a) m c]).run P w = .ok v' w' ∧ w'.ownsRow B e sz v' (n + m) (xs ++ news) ∧ w.grownBy w' v.ownBlock ∧ (v'.ownBlock = v.ownBlock ∨ v'.ownBlock = some w.heap.size) ∧
      ∀ p k ps, w.ownsRow B e sz p k ps → (p.ownBlock = v.ownBlock → k ≤ n) → w'.ownsRow B e sz p k ps := by
  obtain ⟨v', w', hr, h2, h3, h4, h5⟩ := run_append_own_at (P := P) w B t ty e i z sz bytes ht hi hz hsize hby hzs hsz v n xs hown a m c news hl hnews h1 h63 hbytes hB
  refine ⟨v', w', hr, h2, h3, h5, fun p k ps hp hk => ?_⟩
  by_cases hne : p.ownBlock = none ∨ p.ownBlock ≠ v.ownBlock
  · exact hp.kept h3 hne
  · have hpn : p.ownBlock ≠ none := fun e => hne (.inl e)
    have hpe : p.ownBlock = v.ownBlock := by by_cases e : p.ownBlock = v.ownBlock; exact e; exact absurd (.inr e) hne
    have hkn := hk hpe
    rcases hown.2 with ⟨rfl, rfl⟩ | ⟨g, cap, cur, rfl, hbg, hg, hnc, hcm, hcs, htake⟩
    · exact absurd hpe hpn
    · rcases hp.2 with ⟨rfl, _⟩ | ⟨g2, cap2, cur2, rfl, hbg2, hg2, hnc2, hcm2, hcs2, htake2⟩
      · exact absurd rfl hpn
      · have eg : g2 = g := Option.some.inj hpe
        subst eg
        have ec : cur2 = cur := by
          rw [hg] at hg2
          have := Option.some.inj hg2
          injection this with q1 q2 q3
          exact q1.symm
        subst ec
        have ecap : cap2 = cap := Nat.eq_of_mul_eq_mul_right hsz (hcs2.symm.trans hcs)
        subst ecap
        by_cases hroom : n + m ≤ cap2
        · have hr2 := run_append_room (P := P) w t ty e i ht hi g2 n cap2 cur2 hg a m c news (by rw [hsize]; exact hl) hnews h1 hroom (by rw [hsize, hl, hcs, ← Nat.add_mul]; exact Nat.mul_le_mul_right _ hroom)
          rw [hr] at hr2
          injection hr2 with q1 q2
          subst q1
          rcases h2.2 with ⟨q, _⟩ | ⟨g3, cap3, cur3, q, hbg3, hg3, hnc3, hcm3, hcs3, htake3⟩
          · cases q
          · have qa := Value.slice.inj q
            have qb : g2 = g3 := congrArg Addr.block (Option.some.inj qa.1)
            have qc : cap2 = cap3 := qa.2.2
            subst qb qc
            refine ⟨hp.1, .inr ⟨g2, cap2, cur3, rfl, hbg2, hg3, hnc2, hcm2, hcs3, ?_⟩⟩
            have e1 : cur3.toList.take (k * sz) = ((cur3.toList.take ((n + m) * sz)).take (k * sz)) := by rw [List.take_take, Nat.min_eq_left (Nat.mul_le_mul_right _ (by omega))]
            have e2 : cur2.toList.take (k * sz) = ((cur2.toList.take (n * sz)).take (k * sz)) := by rw [List.take_take, Nat.min_eq_left (Nat.mul_le_mul_right _ hkn)]
            rw [e1, htake3, ← htake2, e2, htake, List.take_append_of_le_length (by rw [hown.1]; exact Nat.mul_le_mul_right _ hkn)]
        · have holds : ∀ j u, xs[j]? = some u → w.cell? ((⟨g2, 0, none⟩ : Addr).add j) = some u := hown.cells (g := g2) rfl
          have hr2 := run_append_grow (P := P) w t ty e i z ht hi hz ⟨g2, 0, none⟩ n cap2 xs (by rw [hsize]; exact hown.1) holds a m c news (by rw [hsize]; exact hl) hnews (by omega) (by simp only [maxLen] at h63; omega) (growslice_fits (by omega) (by rw [hby]; exact hbytes))
          rw [hr] at hr2
          injection hr2 with q1 q2
          refine ⟨hp.1, .inr ⟨g2, cap2, cur2, rfl, hbg2, ?_, hnc2, hcm2, hcs2, htake2⟩⟩
          rw [q2]
          exact (heap_alloc_old w.drew _ (Array.getElem?_eq_some_iff.1 hg2).1).trans hg2
theorem wpList_appS {P : Program} {w : World} {ops : Array Oper} {rest : List Oper} {o : Oper} {a : Act} {Q : Exit → Act → World → Prop} (hgd : o.guard = none) (s x : Operand) (t : TypeId)
    (ho : o.op = .call { callee := .builtin .append, args := #[s, x], argTypes := #[t, t] })
    (B sz : Nat) (e : TypeId) (i : TypeInfo) (z : Value) (bytes : Nat) (ht : P.underlying t = some (.slice e)) (hi : P.info? e = some i) (hz : i.zero = some z)
    (hsize : i.size = sz) (hby : i.bytes = bytes) (hzs : z.cells.size = sz) (hsz : 0 < sz)
    (v : Value) (n : Nat) (xs : List Value) (hs : a.eval s = v) (hown : w.ownsRow B e sz v n xs)
    (ad : Addr) (m c : Nat) (news : List Value) (hx : a.eval x = .slice (some ad) m c) (hl : news.length = m * sz) (hnews : ∀ j u, news[j]? = some u → w.cell? (ad.add j) = some u) (h1 : ∀ u ∈ news, u.oneCell' = true)
    (h63 : n + m ≤ maxLen) (hbytes : (n + m) * bytes ≤ 140737488355328) (hB : B ≤ w.heap.size)
    (h : ∀ v' w', w'.ownsRow B e sz v' (n + m) (xs ++ news) → w.grownBy w' v.ownBlock → (v'.ownBlock = v.ownBlock ∨ v'.ownBlock = some w.heap.size) → (∀ p k ps, w.ownsRow B e sz p k ps → (p.ownBlock = v.ownBlock → k ≤ n) → w'.ownsRow B e sz p k ps) → wpList P ops Q rest (a.put o.dst v') w') :
    wpList P ops Q (o :: rest) a w := by
  refine wpList_plain hgd fun K hK => ?_
  obtain ⟨v', w', hr, h2, h3, h4, h5⟩ := run_appS (P := P) w B sz t o.type e i z bytes ht hi hz hsize hby hzs hsz v n xs hown ad m c news hl hnews h1 h63 hbytes hB
  unfold Oper.wp execOp
  simp only [ho, resolve, invoke, builtin, Sem.run_bind, Sem.run_pure, Result.andThen_ok, List.map_toArray, List.map_cons, List.map_nil, hs, hx, hr]
  exact hK _ _ (h v' w' h2 h3 h4 h5)

-- the same amid a region that draws its order
theorem step_appS {P : Program} {w : World} {ops : Array Oper} {o : Oper} {a : Act} {K : Act → World → Prop} {Q : Exit → Act → World → Prop} {E : Prop} (hgd : o.guard = none) (s x : Operand) (t : TypeId)
    (ho : o.op = .call { callee := .builtin .append, args := #[s, x], argTypes := #[t, t] })
    (B sz : Nat) (e : TypeId) (i : TypeInfo) (z : Value) (bytes : Nat) (ht : P.underlying t = some (.slice e)) (hi : P.info? e = some i) (hz : i.zero = some z)
    (hsize : i.size = sz) (hby : i.bytes = bytes) (hzs : z.cells.size = sz) (hsz : 0 < sz)
    (v : Value) (n : Nat) (xs : List Value) (hs : a.eval s = v) (hown : w.ownsRow B e sz v n xs)
    (ad : Addr) (m c : Nat) (news : List Value) (hx : a.eval x = .slice (some ad) m c) (hl : news.length = m * sz) (hnews : ∀ j u, news[j]? = some u → w.cell? (ad.add j) = some u) (h1 : ∀ u ∈ news, u.oneCell' = true)
    (h63 : n + m ≤ maxLen) (hbytes : (n + m) * bytes ≤ 140737488355328) (hB : B ≤ w.heap.size)
    (h : ∀ v' w', w'.ownsRow B e sz v' (n + m) (xs ++ news) → w.grownBy w' v.ownBlock → (v'.ownBlock = v.ownBlock ∨ v'.ownBlock = some w.heap.size) → (∀ p k ps, w.ownsRow B e sz p k ps → (p.ownBlock = v.ownBlock → k ≤ n) → w'.ownsRow B e sz p k ps) → K (a.put o.dst v') w') :
    if Region.wanted o (yielded ops a.tmps) = true then Oper.wp P o a w K Q else E := by
  have hw : Region.wanted o (yielded ops a.tmps) = true := by simp [Region.wanted, hgd]
  rw [if_pos hw]
  obtain ⟨v', w', hr, h2, h3, h4, h5⟩ := run_appS (P := P) w B sz t o.type e i z bytes ht hi hz hsize hby hzs hsz v n xs hown ad m c news hl hnews h1 h63 hbytes hB
  unfold Oper.wp execOp
  simp only [ho, resolve, invoke, builtin, Sem.run_bind, Sem.run_pure, Result.andThen_ok, List.map_toArray, List.map_cons, List.map_nil, hs, hx, hr]
  exact h v' w' h2 h3 h4 h5

-- rows in clusters: rows of one cluster may share a block, those of two do not
structure Clu (w : World) (B t sz : Nat) (C : List (List (Value × List Value))) : Prop where
  own : ∀ c ∈ C, ∀ p ∈ c, ∃ n, w.ownsRow B t sz p.1 n p.2
  apart : C.Pairwise fun c d => ∀ p ∈ c, ∀ q ∈ d, ∀ g, p.1.ownBlock = some g → q.1.ownBlock ≠ some g
section
variable {w w' : World} {B t sz : Nat} {C : List (List (Value × List Value))}
theorem Clu.later (h : Clu w B t sz C) (b : Below w.heap.size w w') : Clu w' B t sz C := ⟨fun c hc p hp => by obtain ⟨n, ho⟩ := h.own c hc p hp; exact ⟨n, own_later ho b⟩, h.apart⟩
theorem Clu.ne (h : Clu w B t sz C) {i j : Nat} {c d : List (Value × List Value)} (hi : C[i]? = some c) (hj : C[j]? = some d) (hij : i ≠ j) : ∀ p ∈ c, ∀ q ∈ d, ∀ g, p.1.ownBlock = some g → q.1.ownBlock ≠ some g := by
  obtain ⟨hi1, hi2⟩ := List.getElem?_eq_some_iff.1 hi
  obtain ⟨hj1, hj2⟩ := List.getElem?_eq_some_iff.1 hj
  rcases Nat.lt_or_gt_of_ne hij with e | e
  · have := List.pairwise_iff_getElem.1 h.apart i j hi1 hj1 e
    rw [hi2, hj2] at this
    exact this
  · have := List.pairwise_iff_getElem.1 h.apart j i hj1 hi1 e
    rw [hi2, hj2] at this
    intro p hp q hq g e1 e2
    exact this q hq p hp g e2 e1
-- one cluster turned: what is written lies in a block of its own rows; new rows lie in its blocks or in new memory
theorem Clu.turn (h : Clu w B t sz C) {i : Nat} {c c' : List (Value × List Value)} (hi : C[i]? = some c) {r : Option Nat} (hr : ∃ p ∈ c, p.1.ownBlock = r) (hg : w.grownBy w' r) (ho : ∀ p ∈ c', ∃ n, w'.ownsRow B t sz p.1 n p.2) (hn : ∀ p ∈ c', (∃ q ∈ c, p.1.ownBlock = q.1.ownBlock) ∨ ∃ g, p.1.ownBlock = some g ∧ w.heap.size ≤ g) : Clu w' B t sz (C.set i c') := by
  obtain ⟨hi1, hi2⟩ := List.getElem?_eq_some_iff.1 hi
  have far : ∀ j d, C[j]? = some d → j ≠ i → ∀ p ∈ d, ∃ n, w'.ownsRow B t sz p.1 n p.2 := fun j d hj hji p hp => by
    obtain ⟨n, hp2⟩ := h.own d (List.mem_iff_getElem?.2 ⟨j, hj⟩) p hp
    refine ⟨n, World.ownsRow.kept hp2 hg ?_⟩
    cases hvb : p.1.ownBlock with
    | none => exact .inl rfl
    | some g =>
      obtain ⟨q, hq, e⟩ := hr
      refine .inr (fun e' => ?_)
      rw [← e] at e'
      exact h.ne hj hi hji p hp q hq g hvb e'.symm
  have ap : ∀ j d, C[j]? = some d → j ≠ i → ∀ p ∈ d, ∀ q ∈ c', ∀ g, p.1.ownBlock = some g → q.1.ownBlock ≠ some g := fun j d hj hji p hp q hq g e1 e2 => by
    rcases hn q hq with ⟨q', hq', e⟩ | ⟨g', e, hlt⟩
    · rw [e] at e2
      exact h.ne hj hi hji p hp q' hq' g e1 e2
    · obtain ⟨n, hp2⟩ := h.own d (List.mem_iff_getElem?.2 ⟨j, hj⟩) p hp
      have h1 := (hp2.lt g e1).2
      rw [e2] at e
      have := Option.some.inj e
      omega
  refine ⟨fun d hd p hp => ?_, ?_⟩
  · obtain ⟨j, hj⟩ := List.mem_iff_getElem?.1 hd
    by_cases e : j = i
    · subst e
      rw [List.getElem?_set_self hi1] at hj
      obtain rfl := Option.some.inj hj
      exact ho p hp
    · rw [List.getElem?_set_ne (Ne.symm e)] at hj
      exact far j d hj e p hp
  · apply List.pairwise_iff_getElem.2
    intro a b ha hb hab p hp q hq g e1 e2
    rw [List.length_set] at ha hb
    rw [List.getElem_set] at hp hq
    by_cases e : i = a
    · rw [if_pos e] at hp
      rw [if_neg (by omega)] at hq
      exact ap b _ (List.getElem?_eq_getElem hb) (by omega) q hq p hp g e2 e1
    · rw [if_neg e] at hp
      by_cases e' : i = b
      · rw [if_pos e'] at hq
        exact ap a _ (List.getElem?_eq_getElem ha) (fun x => e x.symm) p hp q hq g e1 e2
      · rw [if_neg e'] at hq
        exact List.pairwise_iff_getElem.1 h.apart a b ha hb hab p hp q hq g e1 e2
-- one cluster more, of a row that was made since
theorem Clu.add (h : Clu w B t sz C) {v : Value} {xs : List Value} {n : Nat} (b : Below w.heap.size w w') (ho : w'.ownsRow w.heap.size t sz v n xs) (hB : B ≤ w.heap.size) : Clu w' B t sz (C ++ [[(v, xs)]]) := by
  refine ⟨fun c hc p hp => ?_, ?_⟩
  · rcases List.mem_append.1 hc with hc | hc
    · obtain ⟨m, hm⟩ := h.own c hc p hp
      exact ⟨m, own_later hm b⟩
    · obtain rfl : c = [(v, xs)] := by simpa using hc
      obtain rfl : p = (v, xs) := by simpa using hp
      exact ⟨n, own_down ho hB⟩
  · refine List.pairwise_append.2 ⟨h.apart, List.pairwise_singleton _ _, fun c hc d hd p hp q hq g e e' => ?_⟩
    obtain rfl : d = [(v, xs)] := by simpa using hd
    obtain rfl : q = (v, xs) := by simpa using hq
    obtain ⟨m, hm⟩ := h.own c hc p hp
    have h1 := (hm.lt g e).2
    have h2 := (ho.lt g e').1
    omega
end
end Go.Proofs.YtlkkibiedlakfaaGreat.us

namespace Go.Proofs.YtlkkibiedlakfaaGreat.ub
open Go.RowKit Go.PlainAid Go.Maps Go.Shelf
open Go.Proofs.YtlkkibiedlakfaaGreat.ca Go.Proofs.YtlkkibiedlakfaaGreat.cb Go.Proofs.YtlkkibiedlakfaaGreat.cp Go.Proofs.YtlkkibiedlakfaaGreat.kp Go.Proofs.YtlkkibiedlakfaaGreat.ka Go.Proofs.YtlkkibiedlakfaaGreat.ya Go.Proofs.YtlkkibiedlakfaaGreat.yb Go.Proofs.YtlkkibiedlakfaaGreat.yc Go.Proofs.YtlkkibiedlakfaaGreat.yd Go.Proofs.YtlkkibiedlakfaaGreat.ye Go.Proofs.YtlkkibiedlakfaaGreat.yf Go.Proofs.YtlkkibiedlakfaaGreat.xj Go.Proofs.YtlkkibiedlakfaaGreat.ua Go.Proofs.YtlkkibiedlakfaaGreat.us
set_option linter.unusedVariables false
set_option linter.unusedSimpArgs false
theorem textAt {w : World} {a : Option Addr} {n cap : Nat} {L : List ByteArray} (h : ReadsT w (.slice a n cap) L) {k : Nat} {x : ByteArray} (hx : L[k]? = some x) : ∃ b off, a = some ⟨b, off, none⟩ ∧ w.cell? ⟨b, off + k, none⟩ = some (.string x) := by
  obtain ⟨a', c', e, hc, hr⟩ := h
  have hk := (List.getElem?_eq_some_iff.1 hx).1
  rcases hr with h0 | ⟨b, off, e2, hcell⟩
  · omega
  · have e3 := (Value.slice.inj e).1
    refine ⟨b, off, e3.trans e2, ?_⟩
    rw [hcell k hk, List.getD_eq_getElem?_getD, hx]
    rfl
-- a full list in memory
abbrev FO (nv mv : Value) (mk : ByteArray) : Obj := .cells #[nv, mv, .string mk] 77
abbrev FB (w : World) (f : Nat) (nv mv : Value) (mk : ByteArray) : Prop := w.heap[f]? = some (.cells #[nv, mv, .string mk] 77 (0, 0))
theorem FB.cells {w : World} {f : Nat} {nv mv : Value} {mk : ByteArray} (h : FB w f nv mv mk) : w.cell? ⟨f, 0, none⟩ = some nv ∧ w.cell? ⟨f, 1, none⟩ = some mv ∧ w.cell? ⟨f, 2, none⟩ = some (.string mk) := ⟨cell_of_row _ _ 0 _ _ _ h, cell_of_row _ _ 1 _ _ _ h, cell_of_row _ _ 2 _ _ _ h⟩
theorem FB.lt {w : World} {f : Nat} {nv mv : Value} {mk : ByteArray} (h : FB w f nv mv mk) : f < w.heap.size := (Array.getElem?_eq_some_iff.1 h).1
set_option maxRecDepth 40000 in
set_option maxHeartbeats 3200000 in
theorem wholeC (f : Nat) (a a2 : Option Addr) (m c m2 c2 : Nat) (mk : ByteArray) (w : World) (hb : FB w f (.slice a m c) (.slice a2 m2 c2) mk) (h1 : ReadsT w (.slice a m c) (List.replicate m mk)) (h2 : ReadsT w (.slice a2 m2 c2) (List.replicate m2 mk)) (hm : m ≤ 1000000000) (hm2 : m2 ≤ 1000000000) :
    Calls Tryz.prog 12 #[.pointer (some ⟨f, 0, none⟩)] w fun e w' => e = .returned (.bool true) ∧ Below w.heap.size w w' := by
  have HB : Hid (∀ wr, Below w.heap.size w wr → wr.cell? ⟨f, 0, none⟩ = some (.slice a m c) ∧ wr.cell? ⟨f, 1, none⟩ = some (.slice a2 m2 c2) ∧ wr.cell? ⟨f, 2, none⟩ = some (.string mk)) := fun wr b => FB.cells ((b.block f hb.lt).trans hb)
  have H1 : Hid (∀ wr, Below w.heap.size w wr → ReadsT wr (.slice a m c) (List.replicate m mk)) := fun wr b => h1.later b
  have H2 : Hid (∀ wr, Below w.heap.size w wr → ReadsT wr (.slice a2 m2 c2) (List.replicate m2 mk)) := fun wr b => h2.later b
  have hme : (mk.toList == mk.toList) = true := beq_self_eq_true _
  clear hb h1 h2
  go_enter Tryz.func12, Tryz.ntmps12
  go_wp2
  go_loopw [3] (fun iv wr => ∃ k : Nat, k ≤ m ∧ iv = .int .i64 k ∧ Hid (Below w.heap.size w wr)) (fun iv _ => (m - intOf iv).toNat)
  case atStart => exact ⟨0, by omega, rfl, Below.refl _ _⟩
  case round =>
    obtain ⟨k, hk, rfl, B1⟩ := hrel
    obtain ⟨w1, rfl⟩ : ∃ v, v = wr := ⟨_, rfl⟩
    obtain ⟨c0, c1, c2⟩ := HB.out w1 B1.out
    by_cases hlt : k < m
    · have hlt' : (k : Int) < m := by omega
      obtain ⟨b, off, rfl, c3⟩ := textAt (H1.out w1 B1.out) (k := k) (x := mk) (by rw [List.getElem?_replicate, if_pos hlt])
      go_wp2_with fail
      go_quiet (fail)
      have B2 : Hid (Below w.heap.size w (w1.drewN nq)) := B1.out.trans (zh.below_dN (Below.refl _ _) nq |>.mono B1.out.size)
      go_wp2
      go_roundw
      case rel => exact ⟨k + 1, by omega, by go_num, B2⟩
      case measure => simp [intOf]; omega
    · have hlt' : ¬ (k : Int) < m := by omega
      clear c1 c2
      go_wp2
      go_loopw [4] (fun iv wr => ∃ k : Nat, k ≤ m2 ∧ iv = .int .i64 k ∧ Hid (Below w.heap.size w wr)) (fun iv _ => (m2 - intOf iv).toNat)
      case atStart => exact ⟨0, by omega, rfl, B1⟩
      case round =>
        clear c0 B1
        obtain ⟨j, hj, rfl, B1⟩ := hrel
        obtain ⟨w2, rfl⟩ : ∃ v, v = wr := ⟨_, rfl⟩
        obtain ⟨c0, c1, c2⟩ := HB.out w2 B1.out
        by_cases hlj : j < m2
        · have hlj' : (j : Int) < m2 := by omega
          obtain ⟨b, off, rfl, c3⟩ := textAt (H2.out w2 B1.out) (k := j) (x := mk) (by rw [List.getElem?_replicate, if_pos hlj])
          go_wp2_with fail
          go_quiet (fail)
          have B2 : Hid (Below w.heap.size w (w2.drewN nq)) := B1.out.trans (zh.below_dN (Below.refl _ _) nq |>.mono B1.out.size)
          go_wp2
          go_roundw
          case rel => exact ⟨j + 1, by omega, by go_num, B2⟩
          case measure => simp [intOf]; omega
        · have hlj' : ¬ (j : Int) < m2 := by omega
          go_wp2
          go_ret
          exact ⟨rfl, B1.out⟩
end Go.Proofs.YtlkkibiedlakfaaGreat.ub

namespace Go.Proofs.YtlkkibiedlakfaaGreat.uc
open Go.RowKit Go.PlainAid Go.Maps Go.Shelf
open Go.Proofs.YtlkkibiedlakfaaGreat.ca Go.Proofs.YtlkkibiedlakfaaGreat.cb Go.Proofs.YtlkkibiedlakfaaGreat.cp Go.Proofs.YtlkkibiedlakfaaGreat.kp Go.Proofs.YtlkkibiedlakfaaGreat.ka Go.Proofs.YtlkkibiedlakfaaGreat.ya Go.Proofs.YtlkkibiedlakfaaGreat.yb Go.Proofs.YtlkkibiedlakfaaGreat.yc Go.Proofs.YtlkkibiedlakfaaGreat.yd Go.Proofs.YtlkkibiedlakfaaGreat.ye Go.Proofs.YtlkkibiedlakfaaGreat.yf Go.Proofs.YtlkkibiedlakfaaGreat.xj Go.Proofs.YtlkkibiedlakfaaGreat.ua Go.Proofs.YtlkkibiedlakfaaGreat.us Go.Proofs.YtlkkibiedlakfaaGreat.ub
set_option linter.unusedVariables false
set_option linter.unusedSimpArgs false
theorem form {w : World} {B t n : Nat} {v : Value} {xs : List Value} (h : w.ownsRow B t 1 v n xs) : ∃ a c, v = .slice a n c := by
  rcases h.2 with ⟨e, e2⟩ | ⟨g, cap, cur, e, _⟩
  · exact ⟨none, 0, by rw [e, e2]⟩
  · exact ⟨_, _, e⟩
theorem info_str : (Tryz.prog.info? 9).map (fun i => (i.zero, i.size, i.bytes)) = some (some (.string ByteArray.empty), 1, 16) := by kernel_rfl
theorem tg : (9 : Nat) ≠ 77 := by decide
-- what may change: the list's own block, and what is new
abbrev Ac (w : World) (v : Value) (j : Nat) : Prop := v.ownBlock = some j ∨ w.heap.size ≤ j
theorem kp_grown {w wr w' : World} {v u : Value} (hg : wr.grownBy w' u.ownBlock) (hu : ∀ g, u.ownBlock = some g → Ac w v g) : Kp (Ac w v) wr w' :=
  ⟨hg.os, hg.tape, hg.output, hg.size, fun q hq hn => hg.block q hq (fun e => hn (hu q e.symm))⟩
structure F1 (w : World) (B f : Nat) (v : Value) (m : Nat) (mk : ByteArray) (xs : List Value) (wr : World) : Prop where
  b : FB wr f v v mk
  o : wr.ownsRow B 9 1 v m xs
  k : Kp (Ac w v) w wr
  f0 : w.heap.size ≤ f
theorem F1.put {w wr : World} {B f m g c i : Nat} {mk : ByteArray} {xs : List Value} (h : F1 w B f (.slice (some ⟨g, 0, none⟩) m c) m mk xs wr) : F1 w B f (.slice (some ⟨g, 0, none⟩) m c) m mk (xs.set i (.string mk)) (wr.setCell ⟨g, i, none⟩ (.string mk)) := by
  obtain ⟨h1, h2⟩ := World.ownsRow.stored h.o i (.string mk)
  exact ⟨(h2.block f h.b.lt (own_tag h.o h.b tg)).trans h.b, h1, h.k.trans (kp_grown (u := .slice (some ⟨g, 0, none⟩) m c) h2 (fun g e => .inl e)), h.f0⟩
structure F2 (w : World) (B f : Nat) (v : Value) (m : Nat) (mk : ByteArray) (mv : Value) (n : Nat) (wr : World) : Prop where
  b : FB wr f v mv mk
  o : wr.ownsRow B 9 1 v m (List.replicate m (.string mk))
  q : wr.ownsRow B 9 1 mv n (List.replicate n (.string mk))
  l : mv.ownBlock = v.ownBlock ∨ ∃ g, mv.ownBlock = some g ∧ w.heap.size ≤ g
  k : Kp (Ac w v) w wr
  f0 : w.heap.size ≤ f
  mn : m ≤ n
section
variable {w wr w' : World} {B f m n : Nat} {mk : ByteArray} {v mv : Value}
theorem F2.later (h : F2 w B f v m mk mv n wr) (b : Below wr.heap.size wr w') : F2 w B f v m mk mv n w' :=
  ⟨(b.block f h.b.lt).trans h.b, own_later h.o b, own_later h.q b, h.l, h.k.trans (Kp.of_below b), h.f0, h.mn⟩
theorem F2.app (h : F2 w B f v m mk mv n wr) {v' : Value} (h1 : w'.ownsRow B 9 1 v' (n + 1) (List.replicate n (.string mk) ++ [.string mk])) (hg : wr.grownBy w' mv.ownBlock) (hb : v'.ownBlock = mv.ownBlock ∨ v'.ownBlock = some wr.heap.size) (hkeep : ∀ p k ps, wr.ownsRow B 9 1 p k ps → (p.ownBlock = mv.ownBlock → k ≤ n) → w'.ownsRow B 9 1 p k ps) :
    FB w' f v mv mk ∧ F2 w B f v m mk v' (n + 1) (w'.setCell ⟨f, 1, none⟩ v') := by
  have hB : FB w' f v mv mk := (hg.block f h.b.lt (own_tag h.q h.b tg)).trans h.b
  have hu : ∀ g, mv.ownBlock = some g → Ac w v g := fun g e => by
    rcases h.l with l | ⟨g', l, hl⟩
    · exact .inl (by rw [← l]; exact e)
    · rw [l] at e; exact .inr (by have := Option.some.inj e; omega)
  have hk : Kp (Ac w v) w w' := h.k.trans (kp_grown hg hu)
  have ho : w'.ownsRow B 9 1 v m (List.replicate m (.string mk)) := hkeep _ _ _ h.o (fun _ => h.mn)
  have ks : Kp (fun j => j = f) w' (w'.setCell ⟨f, 1, none⟩ v') := Kp.setCell _ _ _ _ rfl
  rw [← List.replicate_succ'] at h1
  refine ⟨hB, ?_, own_kp ho ks (fun j hj e => own_tag ho hB tg (by rw [← e]; exact hj)), own_kp h1 ks (fun j hj e => own_tag h1 hB tg (by rw [← e]; exact hj)), ?_, hk.trans (Kp.setCell _ _ _ _ (.inr h.f0)), h.f0, by have := h.mn; omega⟩
  · have := heap_setCell_same w' f 1 _ _ v' hB
    exact this
  · rcases hb with hb | hb
    · rw [hb]; exact h.l
    · exact .inr ⟨_, hb, h.k.size⟩
end
theorem rep_next (m k : Nat) (mk : ByteArray) (L : List ByteArray) (hL : L.length = m) (hk : k < m) : (List.replicate k (Value.string mk) ++ (L.drop k).map Value.string).set k (.string mk) = List.replicate (k + 1) (Value.string mk) ++ (L.drop (k + 1)).map Value.string := by
  rw [List.drop_eq_getElem_cons (by omega), List.map_cons, List.set_append_right _ _ (by simp)]
  simp [List.replicate_succ']
set_option maxRecDepth 40000 in
set_option maxHeartbeats 6400000 in
theorem filledC (B : Nat) (a : Option Addr) (m c n : Nat) (L : List ByteArray) (w : World) (ho : w.ownsRow B 9 1 (.slice a m c) m (L.map Value.string)) (hm : m ≤ 1000000) (hn : n ≤ 1000) (hB : B ≤ w.heap.size) :
    Calls Tryz.prog 9 #[.slice a m c, .int .i64 n] w fun e w' => ∃ f mk mv, e = .returned (.pointer (some ⟨f, 0, none⟩)) ∧ F2 w B f (.slice a m c) m mk mv (m + 64) w' := by
  have CM : Hid (Calls _ _ _ _ _) := markedC n w hn
  have HO : Hid (w.ownsRow B 9 1 (.slice a m c) m (L.map Value.string) ∧ B ≤ w.heap.size) := ⟨ho, hB⟩
  have hL0 : L.length = m := by have := ho.1; simpa using this
  have HL : Hid (L.length = m) := hL0
  obtain ⟨i9, I1, I2, I3, I4⟩ := info_parts info_str
  have II : Hid (_ ∧ _ ∧ _ ∧ _) := ⟨I1, I2, I3, I4⟩
  clear ho hB hL0 I1 I2 I3 I4
  go_enter Tryz.func9, Tryz.ntmps9
  go_upto_region 2 with (go_at_call 32; refine CM.out.mono ?_; rintro _ w1 ⟨⟨mk, rfl⟩, b1⟩; have B1 : Hid (Below w.heap.size w w1) := b1; clear b1)
  obtain ⟨f, HF⟩ : ∃ f, Hid (w1.heap.size = f) := ⟨_, rfl⟩
  obtain ⟨W2, HW2⟩ : ∃ W, Hid (w1.alloc (.cells #[.slice a m c, .slice a m c, .string mk] 77) = W) := ⟨_, rfl⟩
  have X0 : Hid (F1 w B f (.slice a m c) m mk (List.replicate 0 (.string mk) ++ (L.drop 0).map Value.string) W2) := by
    have b2 := (Below.refl w1.heap.size w1).alloc (Nat.le_refl _) (.cells #[.slice a m c, .slice a m c, .string mk] 77)
    rw [← HW2.out, ← HF.out]
    exact ⟨heap_alloc_new w1 _, own_later (own_later HO.out.1 B1.out) b2, Kp.of_below (over B1.out b2), B1.out.size⟩
  rw [HF.out, HW2.out]
  clear CM B1
  go_wp2
  go_loopw [6] (fun iv wr => ∃ k : Nat, k ≤ m ∧ iv = .int .i64 k ∧ Hid (F1 w B f (.slice a m c) m mk (List.replicate k (.string mk) ++ (L.drop k).map Value.string) wr)) (fun iv _ => (m - intOf iv).toNat)
  case atStart => exact ⟨0, by omega, rfl, X0⟩
  case round =>
    clear X0
    obtain ⟨k, hk, rfl, X⟩ := hrel
    obtain ⟨w3, rfl⟩ : ∃ v, v = wr := ⟨_, rfl⟩
    by_cases hlt : k < m
    · have hlt' : (k : Int) < m := by omega
      obtain ⟨g, rfl⟩ : ∃ g, a = some ⟨g, 0, none⟩ := by
        rcases X.out.o.2 with ⟨e, e2⟩ | ⟨g, cap, cur, e, _⟩
        · omega
        · exact ⟨g, (Value.slice.inj e).1⟩
      obtain ⟨c0, c1, c2⟩ := X.out.b.cells
      have hlen : (List.replicate k (Value.string mk) ++ (L.drop k).map Value.string).length = m := by have := X.out.o.1; omega
      obtain ⟨u, c3⟩ : ∃ u, w3.cell? ⟨g, k, none⟩ = some u := ⟨_, by rw [World.ownsRow.cellAt X.out.o k (by omega)]; exact List.getElem?_eq_getElem (by omega)⟩
      have f3 := World.ownsRow.frozenAt X.out.o k
      have X2 : Hid (F1 w B f (.slice (some ⟨g, 0, none⟩) m c) m mk (List.replicate (k + 1) (.string mk) ++ (L.drop (k + 1)).map Value.string) (w3.setCell ⟨g, k, none⟩ (.string mk))) := by
        have := X.out.put (i := k)
        rw [rep_next m k mk L HL.out hlt] at this
        exact this
      clear X hlen
      go_wp2
      go_roundw
      case rel => exact ⟨k + 1, by omega, by go_num, X2⟩
      case measure => simp [intOf]; omega
    · have hlt' : ¬ (k : Int) < m := by omega
      obtain rfl : k = m := by omega
      have Y0 : Hid (F2 w B f (.slice a k c) k mk (.slice a k c) (k + 0) w3) := by
        have hx := X.out.o
        rw [List.drop_of_length_le (by rw [HL.out]; exact Nat.le_refl _), List.map_nil, List.append_nil] at hx
        exact ⟨X.out.b, hx, hx, .inl rfl, X.out.k, X.out.f0, Nat.le_refl _⟩
      clear X
      go_wp2
      go_loopw [7] (fun iv wr => ∃ (j : Nat) (mv : Value), j ≤ 64 ∧ iv = .int .i64 j ∧ Hid (F2 w B f (.slice a k c) k mk mv (k + j) wr)) (fun iv _ => (64 - intOf iv).toNat)
      case atStart => exact ⟨0, _, by omega, rfl, Y0⟩
      case round =>
        clear Y0
        obtain ⟨j, mv, hj, rfl, Y⟩ := hrel
        obtain ⟨w4, rfl⟩ : ∃ v, v = wr := ⟨_, rfl⟩
        by_cases hlj : j < 64
        · have hlj' : (j : Int) < 64 := by omega
          obtain ⟨va, vc, rfl⟩ := form Y.out.q
          obtain ⟨N, HN⟩ : ∃ N, Hid (k + j = N) := ⟨_, rfl⟩
          rw [HN.out] at Y
          have hN : N ≤ 1000064 := by have := HN.out; omega
          obtain ⟨c0, c1, c2⟩ := Y.out.b.cells
          have fz : w4.frozen? ⟨f, 1, none⟩ = false := frozen_of_row _ _ 1 _ _ Y.out.b
          have Y5 : Hid (F2 w B f (.slice a k c) k mk (.slice va N vc) N (w4.alloc (.cells #[.string mk] 9))) := Y.out.later ((Below.refl _ _).alloc (Nat.le_refl _) _)
          have O5 : Hid ((w4.alloc (.cells #[.string mk] 9)).drew.ownsRow B 9 1 (.slice va N vc) N (List.replicate N (.string mk))) := Y5.out.q
          have c1a : (w4.alloc (.cells #[.string mk] 9)).cell? ⟨f, 1, none⟩ = some (.slice va N vc) := Y5.out.b.cells.2.1
          have AR : Hid (∀ v' w7, w7.ownsRow B 9 1 v' (N + 1) (List.replicate N (.string mk) ++ [.string mk]) → (w4.alloc (.cells #[.string mk] 9)).grownBy w7 (Value.slice va N vc).ownBlock → (v'.ownBlock = (Value.slice va N vc).ownBlock ∨ v'.ownBlock = some (w4.alloc (.cells #[.string mk] 9)).heap.size) → (∀ p k ps, (w4.alloc (.cells #[.string mk] 9)).ownsRow B 9 1 p k ps → (p.ownBlock = (Value.slice va N vc).ownBlock → k ≤ N) → w7.ownsRow B 9 1 p k ps) → FB w7 f (.slice a k c) (.slice va N vc) mk ∧ F2 w B f (.slice a k c) k mk v' (N + 1) (w7.setCell ⟨f, 1, none⟩ v')) := fun v' w7 p1 p2 p3 p4 => Y5.out.app p1 p2 p3 p4
          have hBw : B ≤ w4.heap.size := Nat.le_trans HO.out.2 Y.out.k.size
          clear Y
          go_upto_region 9 with fail
          go_region_law ((first | (have zz := O5.out; refine step_appS (by rfl) (.tmp 35) (.tmp 40) 31 (by rfl) B 1 9 i9 (.string ByteArray.empty) 16 Tryz.underlying31 II.out.1 II.out.2.1 II.out.2.2.1 II.out.2.2.2 rfl (by decide) (.slice va N vc) N _ (by simp [Act.eval]) O5.out ⟨w4.heap.size, 0, none⟩ 1 1 [.string mk] (by simp [Act.eval]) rfl (new_text w4 _ _) (by intro u hu; rw [List.mem_singleton.1 hu]; rfl) (by unfold maxLen; omega) (by omega) (by simp; omega) ?_; intro v' w7 p1 p2 p3 p4; have A7 : Hid _ := AR.out v' w7 p1 ⟨p2.os, p2.tape, p2.output, p2.size, p2.block⟩ p3 p4; obtain ⟨ua, uc, rfl⟩ := form p1; have c17 := A7.out.1.cells.2.1; have f17 := frozen_of_row _ _ 1 _ _ A7.out.1; clear p1 p2 p3 p4 zz)))
          all_goals (
            go_wp2
            go_roundw
            case rel => exact ⟨j + 1, _, by omega, by go_num, (by rw [show k + (j + 1) = N + 1 by have := HN.out; omega]; exact A7.out.2)⟩
            case measure => simp [intOf]; omega)
        · have hlj' : ¬ (j : Int) < 64 := by omega
          obtain rfl : j = 64 := by omega
          go_wp2
          go_ret
          exact ⟨_, rfl, _, _, Y.out⟩
end Go.Proofs.YtlkkibiedlakfaaGreat.uc

namespace Go.Proofs.YtlkkibiedlakfaaGreat.ud
open Go.RowKit Go.PlainAid Go.Maps Go.Shelf
open Go.Proofs.YtlkkibiedlakfaaGreat.ws Go.Proofs.YtlkkibiedlakfaaGreat.ca Go.Proofs.YtlkkibiedlakfaaGreat.cp Go.Proofs.YtlkkibiedlakfaaGreat.kp Go.Proofs.YtlkkibiedlakfaaGreat.ka Go.Proofs.YtlkkibiedlakfaaGreat.ya Go.Proofs.YtlkkibiedlakfaaGreat.yb Go.Proofs.YtlkkibiedlakfaaGreat.yc Go.Proofs.YtlkkibiedlakfaaGreat.yd Go.Proofs.YtlkkibiedlakfaaGreat.ye Go.Proofs.YtlkkibiedlakfaaGreat.yf Go.Proofs.YtlkkibiedlakfaaGreat.yt Go.Proofs.YtlkkibiedlakfaaGreat.yu Go.Proofs.YtlkkibiedlakfaaGreat.wo Go.Proofs.YtlkkibiedlakfaaGreat.wp Go.Proofs.YtlkkibiedlakfaaGreat.wt Go.Proofs.YtlkkibiedlakfaaGreat.us Go.Proofs.YtlkkibiedlakfaaGreat.ub Go.Proofs.YtlkkibiedlakfaaGreat.uc
set_option linter.unusedVariables false
set_option linter.unusedSimpArgs false
section
variable {P g bn bd g' : Nat} {pv dv wv vv : Value} {s : S} {w w' : World}
theorem noCells (h : Co P g bn bd g' pv dv wv vv s w) {j T : Nat} {cur : Array Value} {f : Nat × Nat} (hh : w.heap[j]? = some (.cells cur T f)) (h1 : T ≠ 80) (h2 : T ≠ 105) (h3 : T ≠ 63) (h4 : T ≠ 109) (h5 : T ≠ 29) : ¬ Fo P g bn bd g' pv wv j := by
  rintro (e | (e | e) | e)
  · exact fr_not h.sr h1 h2 e hh
  · have hr : w.heap[g']? = _ := h.ds.row
    rw [← e, hh] at hr
    exact h3 (Obj.cells.inj (Option.some.inj hr)).2.1
  · exact own_tag h.ds.wl hh (Ne.symm h4) e
  · have hr := h.pr
    rw [← e, hh] at hr
    exact h5 (Obj.cells.inj (Option.some.inj hr)).2.1
theorem noStr (h : Co P g bn bd g' pv dv wv vv s w) {B n j : Nat} {v : Value} {xs : List Value} (o : w.ownsRow B 9 1 v n xs) (hj : some j = v.ownBlock) : ¬ Fo P g bn bd g' pv wv j := by
  obtain ⟨cur, f, hc⟩ := own_cells o hj
  exact noCells h hc (by decide) (by decide) (by decide) (by decide) (by decide)
theorem noPtr (h : Co P g bn bd g' pv dv wv vv s w) {B n j : Nat} {v : Value} {xs : List Value} (o : w.ownsRow B 36 1 v n xs) (hj : some j = v.ownBlock) : ¬ Fo P g bn bd g' pv wv j := by
  obtain ⟨cur, f, hc⟩ := own_cells o hj
  exact noCells h hc (by decide) (by decide) (by decide) (by decide) (by decide)
theorem noFull (h : Co P g bn bd g' pv dv wv vv s w) {f : Nat} {a b : Value} {mk : ByteArray} (o : FB w f a b mk) : ¬ Fo P g bn bd g' pv wv f := noCells h o (by decide) (by decide) (by decide) (by decide) (by decide)
end
structure FR where
  f : Nat
  v : Value
  mv : Value
  m : Nat
  n : Nat
  mt : ByteArray
def cl (r : FR) : List (Value × List Value) := [(r.v, List.replicate r.m (.string r.mt)), (r.mv, List.replicate r.n (.string r.mt))]
def pt (r : FR) : Value := .pointer (some ⟨r.f, 0, none⟩)
-- both stores, the book of full lists, rows of texts in clusters
structure LS (w0 : World) (P : Nat) (s : S) (g g' : Nat) (bv : Value) (fs : List FR) (C : List (List (Value × List Value))) (w : World) : Prop where
  co : ∃ bn bd pv dv wv vv, Co P g bn bd g' pv dv wv vv s w ∧ ∀ j, Fo P g bn bd g' pv wv j → w0.heap.size ≤ j
  bk : w.ownsRow w0.heap.size 36 1 bv fs.length (fs.map pt)
  fl : ∀ r ∈ fs, FB w r.f r.v r.mv r.mt ∧ cl r ∈ C ∧ r.m ≤ 1000000 ∧ r.n ≤ 1000064
  cu : Clu w w0.heap.size 9 1 C
  bl : Below w0.heap.size w0 w
section
variable {w0 w w' : World} {P g g' : Nat} {s : S} {bv : Value} {fs : List FR} {C : List (List (Value × List Value))}
theorem LS.later (h : LS w0 P s g g' bv fs C w) (b : Below w.heap.size w w') : LS w0 P s g g' bv fs C w' := by
  obtain ⟨bn, bd, pv, dv, wv, vv, hc, hf⟩ := h.co
  exact ⟨⟨bn, bd, pv, dv, wv, vv, hc.keep (A := fun _ => False) (Kp.of_below b) (fun _ _ e => e) (fun _ _ _ _ e => e), hf⟩, own_later h.bk b, fun r hr => ⟨(b.block _ (h.fl r hr).1.lt).trans (h.fl r hr).1, (h.fl r hr).2⟩, h.cu.later b, over h.bl b⟩
-- the stores go on
theorem LS.step (h : LS w0 P s g g' bv fs C w) (o : Opn) (ho : OkO o) (hn : nums s + 1 < 3518437208883) (ha : s.age < 4398046511104) (hm : mass s ≤ 140737488355000) :
    Calls Tryz.prog 7 #[.pointer (some ⟨P, 0, none⟩), .agg #[.int .i64 o.kind, .string o.key, .string o.data, .int .i64 o.n]] w fun e w' => e = .returned (.bool true) ∧ ∃ g2 g3, LS w0 P (nx s o) g2 g3 bv fs C w' := by
  obtain ⟨bn, bd, pv, dv, wv, vv, hc, hf⟩ := h.co
  refine (stepF o hc ho hn ha hm).mono ?_
  rintro e w' ⟨rfl, g2, bn2, bd2, g3, pv', dv', wv', vv', c2, k2, f2⟩
  have hb := h.bl.size
  refine ⟨rfl, g2, g3, ⟨bn2, bd2, pv', dv', wv', vv', c2, fun j hj => ?_⟩, own_kp h.bk k2 (fun j hj => noPtr hc h.bk hj), fun r hr => ⟨(k2.block _ (h.fl r hr).1.lt (noFull hc (h.fl r hr).1)).trans (h.fl r hr).1, (h.fl r hr).2⟩, ⟨fun c hc' p hp => ?_, h.cu.apart⟩, ⟨k2.os.trans h.bl.os, k2.tape.trans h.bl.tape, k2.output.trans h.bl.output, Nat.le_trans hb k2.size, fun k hk => (k2.block k (by omega) (fun e => by have := hf k e; omega)).trans (h.bl.block k hk)⟩⟩
  · rcases f2 j hj with e | e
    · exact hf j e
    · omega
  · obtain ⟨n, hn⟩ := h.cu.own c hc' p hp
    exact ⟨n, own_kp hn k2 (fun j hj => noStr hc hn hj)⟩
-- a row is filled
theorem LS.fill (h : LS w0 P s g g' bv fs C w) {k f m n : Nat} {a : Option Addr} {c : Nat} {mk : ByteArray} {mv : Value} {L : List ByteArray} (hk : C[k]? = some [(.slice a m c, L.map Value.string)]) (ho : w.ownsRow w0.heap.size 9 1 (.slice a m c) m (L.map Value.string)) (hF : F2 w w0.heap.size f (.slice a m c) m mk mv n w') (hm : m ≤ 1000000) (hn : n ≤ 1000064) :
    LS w0 P s g g' bv fs (C.set k (cl ⟨f, .slice a m c, mv, m, n, mk⟩)) w' ∧ FB w' f (.slice a m c) mv mk ∧ cl ⟨f, .slice a m c, mv, m, n, mk⟩ ∈ C.set k (cl ⟨f, .slice a m c, mv, m, n, mk⟩) := by
  obtain ⟨bn, bd, pv, dv, wv, vv, hc, hf⟩ := h.co
  have hkl := (List.getElem?_eq_some_iff.1 hk).1
  have hb := h.bl.size
  have hv : ∀ j, (Value.slice a m c).ownBlock = some j → w0.heap.size ≤ j := fun j e => (ho.lt j e).1
  have hg : w.grownBy w' (Value.slice a m c).ownBlock := ⟨hF.k.os, hF.k.tape, hF.k.output, hF.k.size, fun q hq hn => hF.k.block q hq (fun e => by rcases e with e | e; exact hn e.symm; omega)⟩
  have stay : ∀ j, j < w.heap.size → some j ≠ (Value.slice a m c).ownBlock → w'.heap[j]? = w.heap[j]? := hg.block
  have hmem : ∀ r ∈ fs, cl r ∈ C.set k (cl ⟨f, .slice a m c, mv, m, n, mk⟩) := fun r hr => by
    obtain ⟨i, hi⟩ := List.mem_iff_getElem?.1 (h.fl r hr).2.1
    have hne : k ≠ i := fun e => by
      subst e
      rw [hk] at hi
      have := congrArg List.length (Option.some.inj hi)
      simp [cl] at this
    exact List.mem_iff_getElem?.2 ⟨i, by rw [List.getElem?_set_ne hne]; exact hi⟩
  refine ⟨⟨⟨bn, bd, pv, dv, wv, vv, hc.keep hF.k (fun j hj e => ?_) (fun j cur fr hh e => ?_), hf⟩, own_kp h.bk hF.k (fun j hj e => ?_), fun r hr => ⟨(stay _ (h.fl r hr).1.lt (own_tag ho (h.fl r hr).1 tg)).trans (h.fl r hr).1, hmem r hr, (h.fl r hr).2.2⟩, ?_, ⟨hF.k.os.trans h.bl.os, hF.k.tape.trans h.bl.tape, hF.k.output.trans h.bl.output, Nat.le_trans hb hF.k.size, fun q hq => (stay q (by omega) (fun e => by have := hv q e.symm; omega)).trans (h.bl.block q hq)⟩⟩, hF.b, ?_⟩
  · rcases e with e | e
    · exact noStr hc ho e.symm hj
    · have := hc.lt j hj; omega
  · rcases e with e | e
    · exact own_tag ho hh (by decide) e.symm
    · have := (Array.getElem?_eq_some_iff.1 hh).1; omega
  · rcases e with e | e
    · obtain ⟨cur, fr, hcc⟩ := own_cells h.bk hj
      exact own_tag ho hcc (by decide) e.symm
    · have := (h.bk.lt j hj.symm).2; omega
  · refine h.cu.turn hk ⟨_, List.mem_singleton.2 rfl, rfl⟩ hg (fun p hp => ?_) (fun p hp => ?_)
    · simp only [cl, List.mem_cons, List.not_mem_nil, or_false] at hp
      rcases hp with rfl | rfl
      · exact ⟨m, hF.o⟩
      · exact ⟨n, hF.q⟩
    · simp only [cl, List.mem_cons, List.not_mem_nil, or_false] at hp
      rcases hp with rfl | rfl
      · exact .inl ⟨_, List.mem_singleton.2 rfl, rfl⟩
      · rcases hF.l with l | l
        · exact .inl ⟨_, List.mem_singleton.2 rfl, l⟩
        · exact .inr l
  · exact List.mem_iff_getElem?.2 ⟨k, List.getElem?_set_self hkl⟩
-- it is put into the book
theorem LS.book (h : LS w0 P s g g' bv fs C w) {r : FR} {bv' : Value} (hF : FB w r.f r.v r.mv r.mt) (hr : cl r ∈ C) (hm : r.m ≤ 1000000) (hn : r.n ≤ 1000064) (h1 : w'.ownsRow w0.heap.size 36 1 bv' (fs.length + 1) (fs.map pt ++ [pt r])) (hg : w.grownBy w' bv.ownBlock) : LS w0 P s g g' bv' (fs ++ [r]) C w' := by
  obtain ⟨bn, bd, pv, dv, wv, vv, hc, hf⟩ := h.co
  have hb := h.bl.size
  have K : Kp (fun j => bv.ownBlock = some j) w w' := ⟨hg.os, hg.tape, hg.output, hg.size, fun q hq hn => hg.block q hq (fun e => hn e.symm)⟩
  have fb : ∀ q : FR, FB w q.f q.v q.mv q.mt → FB w' q.f q.v q.mv q.mt := fun q hq => (hg.block _ hq.lt (own_tag h.bk hq (by decide))).trans hq
  refine ⟨⟨bn, bd, pv, dv, wv, vv, hc.keep K (fun j hj e => noPtr hc h.bk e.symm hj) (fun j cur fr hh e => own_tag h.bk hh (by decide) e.symm), hf⟩, by rw [List.length_append, List.map_append]; exact h1, fun q hq => ?_, ⟨fun c hc' p hp => ?_, h.cu.apart⟩, ⟨hg.os.trans h.bl.os, hg.tape.trans h.bl.tape, hg.output.trans h.bl.output, Nat.le_trans hb hg.size, fun q hq => (hg.block q (by omega) (fun e => by have := (h.bk.lt q e.symm).1; omega)).trans (h.bl.block q hq)⟩⟩
  · rcases List.mem_append.1 hq with hq | hq
    · exact ⟨fb q (h.fl q hq).1, (h.fl q hq).2⟩
    · obtain rfl := List.mem_singleton.1 hq
      exact ⟨fb q hF, hr, hm, hn⟩
  · obtain ⟨n, ho⟩ := h.cu.own c hc' p hp
    exact ⟨n, own_kp ho K (fun j hj e => by
      obtain ⟨cur, fr, hcc⟩ := own_cells ho hj
      exact own_tag h.bk hcc (by decide) e.symm)⟩
-- a new row of texts
theorem LS.add (h : LS w0 P s g g' bv fs C w) (b : Below w.heap.size w w') {v : Value} {n : Nat} {xs : List Value} (ho : w'.ownsRow w.heap.size 9 1 v n xs) : LS w0 P s g g' bv fs (C ++ [[(v, xs)]]) w' := by
  have k := h.later b
  exact ⟨k.co, k.bk, fun r hr => ⟨(k.fl r hr).1, List.mem_append_left _ (k.fl r hr).2.1, (k.fl r hr).2.2⟩, h.cu.add b ho h.bl.size, k.bl⟩
theorem LS.own (h : LS w0 P s g g' bv fs C w) {k : Nat} {v : Value} {L : List ByteArray} (hk : C[k]? = some [(v, L.map Value.string)]) : w.ownsRow w0.heap.size 9 1 v L.length (L.map Value.string) := by
  obtain ⟨n, ho⟩ := h.cu.own _ (List.mem_of_getElem? hk) _ (List.mem_singleton.2 rfl)
  have : L.length = n := by have := ho.1; simpa using this
  rw [this]
  exact ho
theorem LS.read (h : LS w0 P s g g' bv fs C w) {k : Nat} {v : Value} {L : List ByteArray} (hk : C[k]? = some [(v, L.map Value.string)]) : ReadsT w v L := own_readsT (h.own hk)
theorem LS.full (h : LS w0 P s g g' bv fs C w) {r : FR} (hr : r ∈ fs) : FB w r.f r.v r.mv r.mt ∧ w.ownsRow w0.heap.size 9 1 r.v r.m (List.replicate r.m (.string r.mt)) ∧ w.ownsRow w0.heap.size 9 1 r.mv r.n (List.replicate r.n (.string r.mt)) := by
  obtain ⟨h1, h2, _⟩ := h.fl r hr
  obtain ⟨n1, o1⟩ := h.cu.own _ h2 (r.v, List.replicate r.m (.string r.mt)) (by simp [cl])
  obtain ⟨n2, o2⟩ := h.cu.own _ h2 (r.mv, List.replicate r.n (.string r.mt)) (by simp [cl])
  have e1 : r.m = n1 := by have := o1.1; simpa using this
  have e2 : r.n = n2 := by have := o2.1; simpa using this
  refine ⟨h1, ?_, ?_⟩
  · rw [← e1] at o1; exact o1
  · rw [← e2] at o2; exact o2
end
end Go.Proofs.YtlkkibiedlakfaaGreat.ud

namespace Go.Proofs.YtlkkibiedlakfaaGreat.ue
open Go.RowKit Go.PlainAid Go.Maps Go.Shelf
open Go.Proofs.YtlkkibiedlakfaaGreat.ws Go.Proofs.YtlkkibiedlakfaaGreat.wr Go.Proofs.YtlkkibiedlakfaaGreat.ca Go.Proofs.YtlkkibiedlakfaaGreat.cp Go.Proofs.YtlkkibiedlakfaaGreat.kp Go.Proofs.YtlkkibiedlakfaaGreat.ka Go.Proofs.YtlkkibiedlakfaaGreat.ya Go.Proofs.YtlkkibiedlakfaaGreat.yb Go.Proofs.YtlkkibiedlakfaaGreat.yc Go.Proofs.YtlkkibiedlakfaaGreat.yd Go.Proofs.YtlkkibiedlakfaaGreat.ye Go.Proofs.YtlkkibiedlakfaaGreat.yf Go.Proofs.YtlkkibiedlakfaaGreat.yg Go.Proofs.YtlkkibiedlakfaaGreat.yt Go.Proofs.YtlkkibiedlakfaaGreat.yu Go.Proofs.YtlkkibiedlakfaaGreat.xc Go.Proofs.YtlkkibiedlakfaaGreat.wo Go.Proofs.YtlkkibiedlakfaaGreat.wp Go.Proofs.YtlkkibiedlakfaaGreat.wt Go.Proofs.YtlkkibiedlakfaaGreat.us Go.Proofs.YtlkkibiedlakfaaGreat.ub Go.Proofs.YtlkkibiedlakfaaGreat.uc Go.Proofs.YtlkkibiedlakfaaGreat.ud
set_option linter.unusedVariables false
set_option linter.unusedSimpArgs false
theorem info_ptr : (Tryz.prog.info? 36).map (fun i => (i.zero, i.size, i.bytes)) = some (some (.pointer none), 1, 8) := by kernel_rfl
theorem keys_len (s : S) : (keysS s ⟨#[]⟩).length ≤ nums s := by
  unfold keysS
  split
  · simp
  · unfold keysL
    have h2 := List.length_filter_le (fun p : Rec => Lib.hasPrefix (bs p.1) (bs ⟨#[]⟩)) (now s)
    have h3 : (now s).length ≤ s.dur.length + s.pend.length := len_do _ _
    rw [List.length_map]
    unfold nums
    omega
-- what a store of so many records weighs
theorem isz_le (r : List Rec) (h : OkR r) : yo.isz r ≤ 1 + r.length * 1048700 := by
  induction r with
  | nil => simp [yo.isz]
  | cons p r ih =>
    have h1 := ih (fun x hx => h x (by simp [hx]))
    have h2 := h p (by simp)
    simp only [yo.isz, List.length_cons]
    omega
theorem pw_le (l : List W) (h : ∀ x ∈ l, OkW x) : pw l ≤ l.length * 1048700 := by
  induction l with
  | nil => simp [pw]
  | cons x l ih =>
    have h1 := ih (fun y hy => h y (by simp [hy]))
    have h2 := h x (by simp)
    unfold OkW at h2
    simp only [pw, wW, List.length_cons]
    omega
theorem mass_le (s : S) (h : OkS s) : mass s ≤ 1 + nums s * 1048700 := by
  have h1 := isz_le _ h.dur
  have h2 := pw_le _ h.pend
  unfold mass nums
  omega
section
variable {w0 w w' : World} {P g g' : Nat} {s : S} {bv : Value} {fs : List FR} {C : List (List (Value × List Value))}
theorem LS.c01 (h : LS w0 P s g g' bv fs C w) : w.cell? ⟨P, 0, none⟩ = some (.pointer (some ⟨g, 0, none⟩)) ∧ w.cell? ⟨P, 1, none⟩ = some (.pointer (some ⟨g', 0, none⟩)) := by
  obtain ⟨bn, bd, pv, dv, wv, vv, hc, hf⟩ := h.co
  exact ⟨cell_of_row _ _ 0 _ _ _ hc.pr, cell_of_row _ _ 1 _ _ _ hc.pr⟩
theorem LS.ok (h : LS w0 P s g g' bv fs C w) : OkS s := by
  obtain ⟨bn, bd, pv, dv, wv, vv, hc, hf⟩ := h.co
  exact hc.sr.ok
theorem LS.keys (h : LS w0 P s g g' bv fs C w) : Calls Tryz.prog 10 #[.pointer (some ⟨g, 0, none⟩), .string ⟨#[]⟩] w fun e w' => ∃ v, e = .returned v ∧ w'.ownsRow w.heap.size 9 1 v (keysS s ⟨#[]⟩).length ((keysS s ⟨#[]⟩).map Value.string) ∧ Below w.heap.size w w' := by
  obtain ⟨bn, bd, pv, dv, wv, vv, hc, hf⟩ := h.co
  exact yf.keysC _ hc.sr
theorem LS.keysR (h : LS w0 P s g g' bv fs C w) : Calls Tryz.prog 11 #[.pointer (some ⟨g', 0, none⟩), .string ⟨#[]⟩] w fun e w' => ∃ v, e = .returned v ∧ w'.ownsRow w.heap.size 9 1 v (keysS s ⟨#[]⟩).length ((keysS s ⟨#[]⟩).map Value.string) ∧ Below w.heap.size w w' := by
  obtain ⟨bn, bd, pv, dv, wv, vv, hc, hf⟩ := h.co
  exact xh.keysD _ hc.ds
theorem LS.whole (h : LS w0 P s g g' bv fs C w) {r : FR} (hr : r ∈ fs) : Calls Tryz.prog 12 #[.pointer (some ⟨r.f, 0, none⟩)] w fun e w' => e = .returned (.bool true) ∧ Below w.heap.size w w' := by
  obtain ⟨hF, o1, o2⟩ := h.full hr
  obtain ⟨_, _, b1, b2⟩ := h.fl r hr
  obtain ⟨a, c, e1⟩ := form o1
  obtain ⟨a2, c2, e2⟩ := form o2
  rw [e1, e2] at hF
  rw [e1] at o1
  rw [e2] at o2
  refine wholeC r.f a a2 r.m c r.n c2 r.mt w hF ?_ ?_ (by omega) (by omega)
  · exact own_readsT (xs := List.replicate r.m r.mt) (by rw [List.map_replicate]; exact o1)
  · exact own_readsT (xs := List.replicate r.n r.mt) (by rw [List.map_replicate]; exact o2)
theorem LS.at {b0 nb cb : Nat} (h : LS w0 P s g g' (.slice (some ⟨b0, 0, none⟩) nb cb) fs C w) {k : Nat} {r : FR} (hk : fs[k]? = some r) : w.cell? ⟨b0, k, none⟩ = some (.pointer (some ⟨r.f, 0, none⟩)) := by
  have hl := (List.getElem?_eq_some_iff.1 hk).1
  have hb := h.bk
  obtain ⟨a, c, e⟩ := form hb
  have e2 : nb = fs.length := (Value.slice.inj e).2.1
  rw [e2] at hb
  have hk2 : k < fs.length * 1 := by omega
  rw [World.ownsRow.cellAt hb k hk2, List.getElem?_map, hk]
  rfl
end
theorem listsNo (c : Int) (v : Value) (w : World) (hc : ¬ (0 ≤ c ∧ c ≤ 1073741824)) : Calls Tryz.prog 3 #[.int .i64 c, v] w fun e w' => e = .returned (.bool true) ∧ Below w.heap.size w w' := by
  have C1 : Hid (∀ w, Calls _ _ _ _ _) := fun w => yg.newNo c w hc
  have C2 : Hid (∀ w, Calls _ _ _ _ _) := fun w => newDNo c w hc
  have HB : Hid (Below w.heap.size w w) := Below.refl _ _
  clear hc
  go_enter Tryz.func3, Tryz.ntmps3
  go_wp2_with (first | (go_at_call 5; refine (C1.out _).mono ?_; rintro _ wz ⟨rfl, hwz⟩; rw [hwz]; clear hwz) | (go_at_call 6; refine (C2.out _).mono ?_; rintro _ wz ⟨rfl, hwz⟩; rw [hwz]; clear hwz) | go_in)
  go_ret
  exact ⟨rfl, HB.out⟩
theorem same_yes (w1 : World) (a b : Value) (ks : List ByteArray) (r1 : ReadsT w1 a ks) (r2 : ReadsT w1 b ks) (hk : ks.length ≤ 1000000) : Calls Tryz.prog 8 #[a, b] w1 fun e w' => e = .returned (.bool true) ∧ Below w1.heap.size w1 w' := (Go.Proofs.YtlkkibiedlakfaaGreat.bn.same_yes a b ks w1 r1 r2 (by omega)).mono fun e w' ⟨x, m, hm⟩ => ⟨x, by rw [hm]; exact zh.below_dN (Below.refl _ _) m⟩
theorem newP (w : World) (u : Value) (t : Nat) : ∀ j z, [u][j]? = some z → (w.alloc (.cells #[u] t)).cell? ((⟨w.heap.size, 0, none⟩ : Addr).add j) = some z := by
  intro j z h
  have hj := (List.getElem?_eq_some_iff.1 h).1
  obtain rfl : j = 0 := by simpa using hj
  have e : ((⟨w.heap.size, 0, none⟩ : Addr).add 0) = ⟨w.heap.size, 0, none⟩ := by simp [Addr.add]
  rw [e, World.cell?_alloc_new]
  exact h
set_option maxRecDepth 40000 in
set_option maxHeartbeats 6400000 in
theorem listsYes (c : Int) (v : Value) (l : List Opn) (w : World) (hv : ReadsO w.heap.size w v l) (hn : l.length < 3518437208883) (hc : 0 ≤ c ∧ c ≤ 1073741824) :
    Calls Tryz.prog 3 #[.int .i64 c, v] w fun e w' => e = .returned (.bool true) ∧ Below w.heap.size w w' := by
  have CN : Hid (∀ w1, Calls _ _ _ _ _) := fun w1 => newC c w1 hc
  have CM : Hid (∀ w1, Calls _ _ _ _ _) := fun w1 => newD c w1 hc
  obtain ⟨va, vc, rfl, _⟩ := hv.form
  have HV : Hid (ReadsO w.heap.size w (.slice va l.length vc) l) := hv
  obtain ⟨N, HN⟩ : ∃ N, Hid (l.length = N) := ⟨_, rfl⟩
  rw [HN.out] at hn HV ⊢
  have hNb : (N : Int) ≤ 3518437208883 := by omega
  obtain ⟨ip, I1, I2, I3, I4⟩ := info_parts info_ptr
  have II : Hid (_ ∧ _ ∧ _ ∧ _) := ⟨I1, I2, I3, I4⟩
  clear hv hc hn I1 I2 I3 I4
  go_enter Tryz.func3, Tryz.ntmps3
  go_upto_region 2 with (first | (go_at_call 5; refine (CN.out _).mono ?_; rintro _ w1 ⟨g0, bn0, bd0, rfl, h1, b1⟩; have N1 : Hid (Sr _ _ _ _ _ _ w1) := h1; have B1 : Hid (Below w.heap.size w w1) := b1; clear h1 b1) | go_in)
  go_upto_region 3 with (first | (go_at_call 6; refine (CM.out _).mono ?_; rintro _ w2 ⟨g1, rfl, h2, b2⟩; have D2 : Hid (Ds _ _ _ _ _ _ w2) := h2; have B2 : Hid (Below w1.heap.size w1 w2) := b2; clear h2 b2) | go_in)
  go_upto_region 8 with fail
  obtain ⟨W3, HW3⟩ : ∃ W3, Hid (w2.alloc (.cells #[.pointer (some ⟨g0, 0, none⟩), .pointer (some ⟨g1, 0, none⟩)] 29) = W3) := ⟨_, rfl⟩
  obtain ⟨P, HP⟩ : ∃ P, Hid (w2.heap.size = P) := ⟨_, rfl⟩
  have PR : Hid (LS w P ⟨c, [], [], 0, false, 0⟩ g0 g1 (.slice none 0 0) [] [[(.slice none 0 0, [])]] W3) := by
    have b12 : Below w.heap.size w w2 := over B1.out B2.out
    have b3 : Below w2.heap.size w2 (w2.alloc (.cells #[.pointer (some ⟨g0, 0, none⟩), .pointer (some ⟨g1, 0, none⟩)] 29)) := (Below.refl _ _).alloc (Nat.le_refl _) _
    rw [← HW3.out, ← HP.out]
    refine ⟨⟨_, _, _, _, _, _, ⟨sr_down (sr_later (sr_later N1.out B2.out) b3) (Nat.zero_le _), (ds_down D2.out (Nat.zero_le _)).later b3, heap_alloc_new w2 _⟩, ?_⟩, World.ownsRow_nil _ _ _ _, fun r hr => absurd hr List.not_mem_nil, ⟨fun c hc p hp => ?_, List.pairwise_singleton _ _⟩, over b12 b3⟩
    · rintro j (e | (e | e) | e)
      · exact (sr_in N1.out j e).2
      · have := D2.out.low; have := B1.out.size; omega
      · cases e
      · have := b12.size; omega
    · obtain rfl := List.mem_singleton.1 hc
      obtain rfl := List.mem_singleton.1 hp
      exact ⟨0, World.ownsRow_nil _ _ _ _⟩
  rw [HW3.out, HP.out]
  clear CN CM N1 D2 B1 B2
  go_wp2_with fail
  go_loopw [8, 9, 10, 11] (fun bv cv tv iv wr => ∃ (i : Nat) (s : S) (g g' : Nat) (fs : List FR) (C : List (List (Value × List Value))) (X : List ByteArray) (kc kw : Nat), i ≤ N ∧ i ≤ 60 ∧ iv = .int .i64 i ∧ Hid (LS w P s g g' bv fs C wr) ∧ Hid (C[kc]? = some [(cv, X.map Value.string)] ∧ C[kw]? = some [(tv, X.map Value.string)] ∧ X.length ≤ i) ∧ Hid (nums s ≤ i ∧ s.age ≤ i ∧ fs.length = 2 * i)) (fun _ _ _ iv _ => (60 - intOf iv).toNat)
  case atStart => exact ⟨0, _, _, _, [], _, [], 0, 0, Nat.zero_le _, by omega, rfl, PR.out, ⟨rfl, rfl, Nat.le_refl _⟩, Nat.le_refl _, Nat.le_refl _, rfl⟩
  case round =>
    clear PR
    obtain ⟨i, s, g, g', fs, C, X, kc, kw, hiN, hi60, rfl, HO, HC, HB⟩ := hrel
    obtain ⟨bv, rfl⟩ : ∃ v, v = u8 := ⟨_, rfl⟩
    obtain ⟨cv, rfl⟩ : ∃ v, v = u9 := ⟨_, rfl⟩
    obtain ⟨tv, rfl⟩ : ∃ v, v = u10 := ⟨_, rfl⟩
    obtain ⟨w4, rfl⟩ : ∃ v, v = wr := ⟨_, rfl⟩
    by_cases hlt : i < N ∧ i < 60
    · obtain ⟨hl1, hl2⟩ := hlt
      have d1 : decide ((i : Int) < (N : Int)) = true := decide_eq_true (by omega)
      have d2 : decide ((i : Int) < 60) = true := decide_eq_true (by omega)
      have hlt1 : (i : Int) < N := by omega
      have hlt2 : (i : Int) < 60 := by omega
      obtain ⟨m2, m3, m4⟩ := HB.out
      have hok := LS.ok HO.out
      have m1 := mass_le s hok
      have m5 : nums s * 1048700 ≤ 60 * 1048700 := Nat.mul_le_mul_right _ (by omega)
      have hbl := HO.out.bl
      have hil : i < l.length := by rw [HN.out]; exact hl1
      obtain ⟨o, ho⟩ : ∃ o, l[i]? = some o := ⟨_, List.getElem?_eq_getElem hil⟩
      have hoo := HV.out.each o (List.mem_of_getElem? ho)
      obtain ⟨va', vc', e', h0 | ⟨b, off, e2, _, hcell⟩⟩ := (HV.out.later hbl).form
      · omega
      have e3 := (Value.slice.inj e').1
      rw [e2] at e3
      clear e' e2
      subst e3
      obtain ⟨p0, p1, p2, p3⟩ := hcell i o ho
      obtain ⟨_, n2, n3⟩ := nx_grows s o
      have HK : Hid (nums (nx s o) ≤ i + 1 ∧ (nx s o).age ≤ i + 1) := ⟨by omega, by omega⟩
      have ST := LS.step HO.out o hoo (by omega) (by omega) (by omega)
      obtain ⟨s2, HS2⟩ : ∃ t, Hid (nx s o = t) := ⟨_, rfl⟩
      rw [HS2.out] at ST HK
      have hkl := keys_len s2
      obtain ⟨ks, HKS⟩ : ∃ x, Hid (keysS s2 ⟨#[]⟩ = x) := ⟨_, rfl⟩
      rw [HKS.out] at hkl
      obtain ⟨kl, HKL⟩ : ∃ k, Hid (ks.length = k) := ⟨_, rfl⟩
      have hks : kl ≤ i + 1 := by have := HK.out.1; have := HKL.out; omega
      obtain ⟨kd, kk, dd, nn⟩ := o
      have STH : Hid (Calls _ _ _ _ _) := ST
      have HFL : Hid (fs.length = 2 * i) := m4
      obtain ⟨ca, cc, hcv⟩ := form (HO.out.own HC.out.1)
      have hX := HC.out.2.2
      obtain ⟨xl, HXL⟩ : ∃ x, Hid (X.length = x) := ⟨_, rfl⟩
      rw [HXL.out] at hcv hX
      subst hcv
      obtain ⟨q, HQ⟩ : ∃ q : Nat, Hid (2 * i = q) := ⟨_, rfl⟩
      have hq : (2 : Int) * (i : Int) = (q : Int) := by have := HQ.out; omega
      have hq2 : q ≤ 120 := by have := HQ.out; omega
      obtain ⟨q1, HQ1⟩ : ∃ q1 : Nat, Hid (q + 1 = q1) := ⟨_, rfl⟩
      have hq3 : (q : Int) + 1 = (q1 : Int) := by have := HQ1.out; omega
      have hq4 : q1 ≤ 121 := by have := HQ1.out; omega
      clear ST hcell ho hoo n2 n3 m1 m2 m3 m4 m5 hok hbl HB HS2 hil hkl
      go_wp2_with (first | (go_at_call 7; refine STH.out.mono ?_; rintro _ w5 ⟨rfl, g2, g3, h5⟩; have L5 : Hid (LS w P s2 g2 g3 bv fs C w5) := h5; clear h5) | fail)
      obtain ⟨ca_, cb_⟩ := LS.c01 L5.out
      have CS1 : Hid (Calls _ _ _ _ _) := same_yes w5 (.slice ca xl cc) tv X (L5.out.read HC.out.1) (L5.out.read HC.out.2.1) (by have := HXL.out; omega)
      clear ca_ cb_
      go_wp2_with fail
      refine CS1.out.mono ?_
      rintro _ w6 ⟨rfl, bb⟩
      have L6 : Hid (LS w P s2 g2 g3 bv fs C w6) := L5.out.later bb
      clear bb CS1 L5
      have CF1 : Hid (Calls _ _ _ _ _) := filledC w.heap.size ca xl cc q X w6 (by have := L6.out.own HC.out.1; rw [HXL.out] at this; exact this) (by omega) (by omega) L6.out.bl.size
      go_wp2_with fail
      refine CF1.out.mono ?_
      rintro _ w7 ⟨f1, mk1, mv1, rfl, hF⟩
      obtain ⟨r1, HR1⟩ : ∃ r : FR, Hid (r = ⟨f1, .slice ca xl cc, mv1, xl, xl + 64, mk1⟩) := ⟨_, rfl⟩
      have L7 : Hid (LS w P s2 g2 g3 bv fs (C.set kc (cl r1)) w7 ∧ FB w7 r1.f r1.v r1.mv r1.mt ∧ cl r1 ∈ C.set kc (cl r1)) := by
        rw [HR1.out]
        exact L6.out.fill HC.out.1 (by have := L6.out.own HC.out.1; rw [HXL.out] at this; exact this) hF (by omega) (by omega)
      have hr1 : Hid (r1.f = f1 ∧ r1.m ≤ 1000000 ∧ r1.n ≤ 1000064) := by show _ ∧ _ ∧ _; rw [HR1.out]; exact ⟨rfl, by show xl ≤ _; omega, by show xl + 64 ≤ _; omega⟩
      clear hF CF1 L6 HR1
      obtain ⟨C1, HC1⟩ : ∃ c, Hid (C.set kc (cl r1) = c) := ⟨_, rfl⟩
      rw [HC1.out] at L7
      clear HC HC1
      have L8 : Hid (LS w P s2 g2 g3 bv fs C1 (w7.alloc (.cells #[.pointer (some ⟨f1, 0, none⟩)] 36))) := L7.out.1.later ((Below.refl _ _).alloc (Nat.le_refl _) _)
      have F8 : Hid (FB (w7.alloc (.cells #[.pointer (some ⟨f1, 0, none⟩)] 36)) r1.f r1.v r1.mv r1.mt ∧ cl r1 ∈ C1) := ⟨(((Below.refl w7.heap.size w7).alloc (Nat.le_refl _) _).block _ L7.out.2.1.lt).trans L7.out.2.1, L7.out.2.2⟩
      have hfl : fs.length ≤ 120 := by have := HFL.out; omega
      clear L7
      go_upto_region 21 with (at_builtin; (
        refine wpList_appS rfl (.tmp 55) (.tmp 60) 30 rfl w.heap.size 1 36 ip (.pointer none) 8 Tryz.underlying30 II.out.1 II.out.2.1 II.out.2.2.1 II.out.2.2.2 rfl (by decide) _ fs.length (fs.map pt) rfl L8.out.bk ⟨w7.heap.size, 0, none⟩ 1 1 [.pointer (some ⟨f1, 0, none⟩)] rfl rfl (newP w7 _ _) (by intro u hu; rw [List.mem_singleton.1 hu]; rfl) (by unfold maxLen; omega) (by omega) L8.out.bl.size ?_
        intro bv1 w9 p1 p2 p3 p4
        have L9 : Hid (LS w P s2 g2 g3 bv1 (fs ++ [r1]) C1 w9) := L8.out.book F8.out.1 F8.out.2 hr1.out.2.1 hr1.out.2.2 (by unfold pt; rw [hr1.out.1]; exact p1) p2
        clear p1 p2 p3 p4 L8 F8))
      have HF9 : Hid ((fs ++ [r1]).length = q1) := by show _ = _; rw [List.length_append, HFL.out]; have := HQ.out; have := HQ1.out; simp; omega
      obtain ⟨fs1, HFS⟩ : ∃ f, Hid (fs ++ [r1] = f) := ⟨_, rfl⟩
      rw [HFS.out] at L9 HF9
      clear hfl hr1 HFS HFL
      obtain ⟨c0, c1⟩ := LS.c01 L9.out
      have CK1 : Hid (Calls _ _ _ _ _) := LS.keys L9.out
      rw [HKS.out] at CK1
      go_wp2_with fail
      refine CK1.out.mono ?_
      rintro _ w10 ⟨lv, rfl, how, bb⟩
      obtain ⟨la, lc, hlv⟩ := form how
      rw [HKL.out] at hlv
      subst hlv
      have LA0 : Hid (LS w P s2 g2 g3 bv1 fs1 (C1 ++ [[(Value.slice la kl lc, ks.map Value.string)]]) w10) := L9.out.add bb how
      clear how bb c0 c1 CK1 L9
      obtain ⟨C2, HC2⟩ : ∃ c, Hid (C1 ++ [[(Value.slice la kl lc, ks.map Value.string)]] = c) := ⟨_, rfl⟩
      have e2 : Hid (C2[C1.length]? = some [(Value.slice la kl lc, ks.map Value.string)] ∧ C2.length = C1.length + 1) := by show _ ∧ _; rw [← HC2.out]; exact ⟨by rw [List.getElem?_append_right (Nat.le_refl _), Nat.sub_self]; rfl, by simp⟩
      rw [HC2.out] at LA0
      obtain ⟨c0, c1⟩ := LS.c01 LA0.out
      have CK2 : Hid (Calls _ _ _ _ _) := LS.keys LA0.out
      rw [HKS.out] at CK2
      go_wp2_with fail
      refine CK2.out.mono ?_
      rintro _ w11 ⟨cv1, rfl, how, bb⟩
      have LA1 : Hid (LS w P s2 g2 g3 bv1 fs1 (C2 ++ [[(cv1, ks.map Value.string)]]) w11) := LA0.out.add bb how
      clear how bb c0 c1 CK2 LA0
      obtain ⟨C3, HC3⟩ : ∃ c, Hid (C2 ++ [[(cv1, ks.map Value.string)]] = c) := ⟨_, rfl⟩
      have e3 : Hid (C3[C1.length]? = some [(Value.slice la kl lc, ks.map Value.string)] ∧ C3[C1.length + 1]? = some [(cv1, ks.map Value.string)] ∧ C3.length = C1.length + 2) := by
        show _ ∧ _ ∧ _
        rw [← HC3.out]
        have := e2.out.2
        exact ⟨by rw [List.getElem?_append_left (by omega)]; exact e2.out.1, by rw [← this, List.getElem?_append_right (Nat.le_refl _), Nat.sub_self]; rfl, by rw [List.length_append, this]; rfl⟩
      rw [HC3.out] at LA1
      clear e2 HC2 HC3
      obtain ⟨c0, c1⟩ := LS.c01 LA1.out
      have CK3 : Hid (Calls _ _ _ _ _) := LS.keysR LA1.out
      rw [HKS.out] at CK3
      go_wp2_with fail
      refine CK3.out.mono ?_
      rintro _ w12 ⟨tv1, rfl, how, bb⟩
      have LA2 : Hid (LS w P s2 g2 g3 bv1 fs1 (C3 ++ [[(tv1, ks.map Value.string)]]) w12) := LA1.out.add bb how
      clear how bb c0 c1 CK3 LA1
      obtain ⟨C4, HC4⟩ : ∃ c, Hid (C3 ++ [[(tv1, ks.map Value.string)]] = c) := ⟨_, rfl⟩
      obtain ⟨K0, HK0⟩ : ∃ k, Hid (C1.length = k) := ⟨_, rfl⟩
      rw [HK0.out] at e3
      have e4 : Hid (C4[K0]? = some [(Value.slice la kl lc, ks.map Value.string)] ∧ C4[K0 + 1]? = some [(cv1, ks.map Value.string)] ∧ C4[K0 + 2]? = some [(tv1, ks.map Value.string)]) := by
        show _ ∧ _ ∧ _
        rw [← HC4.out]
        have := e3.out.2.2
        exact ⟨by rw [List.getElem?_append_left (by omega)]; exact e3.out.1, by rw [List.getElem?_append_left (by omega)]; exact e3.out.2.1, by rw [← this, List.getElem?_append_right (Nat.le_refl _), Nat.sub_self]; rfl⟩
      rw [HC4.out] at LA2
      clear e3 HC4 HK0
      have CS2 : Hid (Calls _ _ _ _ _) := same_yes w12 (.slice la kl lc) tv1 ks (LA2.out.read e4.out.1) (LA2.out.read e4.out.2.2) (by have := HKL.out; omega)
      have CS3 : Hid (∀ W, Below w12.heap.size w12 W → Calls _ _ _ _ _) := fun W b => same_yes W cv1 tv1 ks ((LA2.out.later b).read e4.out.2.1) ((LA2.out.later b).read e4.out.2.2) (by have := HKL.out; omega)
      go_wp2_with fail
      refine CS2.out.mono ?_
      rintro _ w13 ⟨rfl, bb⟩
      have B13 : Hid (Below w12.heap.size w12 w13) := bb
      clear bb
      go_wp2_with fail
      refine (CS3.out _ B13.out).mono ?_
      rintro _ w14 ⟨rfl, bb⟩
      have L14 : Hid (LS w P s2 g2 g3 bv1 fs1 C4 w14) := (LA2.out.later B13.out).later bb
      clear bb B13 CS2 CS3 LA2
      have CF2 : Hid (Calls _ _ _ _ _) := filledC w.heap.size la kl lc q1 ks w14 (by have := L14.out.own e4.out.1; rw [HKL.out] at this; exact this) (by omega) (by omega) L14.out.bl.size
      go_wp2_with fail
      refine CF2.out.mono ?_
      rintro _ w15 ⟨f2, mk2, mv2, rfl, hF⟩
      obtain ⟨r2, HR2⟩ : ∃ r : FR, Hid (r = ⟨f2, .slice la kl lc, mv2, kl, kl + 64, mk2⟩) := ⟨_, rfl⟩
      have L15 : Hid (LS w P s2 g2 g3 bv1 fs1 (C4.set K0 (cl r2)) w15 ∧ FB w15 r2.f r2.v r2.mv r2.mt ∧ cl r2 ∈ C4.set K0 (cl r2)) := by
        rw [HR2.out]
        exact L14.out.fill e4.out.1 (by have := L14.out.own e4.out.1; rw [HKL.out] at this; exact this) hF (by omega) (by omega)
      have hr2 : Hid (r2.f = f2 ∧ r2.m ≤ 1000000 ∧ r2.n ≤ 1000064) := by show _ ∧ _ ∧ _; rw [HR2.out]; exact ⟨rfl, by show kl ≤ _; omega, by show kl + 64 ≤ _; omega⟩
      clear hF CF2 L14 HR2
      obtain ⟨C5, HC5⟩ : ∃ c, Hid (C4.set K0 (cl r2) = c) := ⟨_, rfl⟩
      have e5 : Hid (C5[K0 + 1]? = some [(cv1, ks.map Value.string)] ∧ C5[K0 + 2]? = some [(tv1, ks.map Value.string)]) := by
        show _ ∧ _
        rw [← HC5.out]
        exact ⟨by rw [List.getElem?_set_ne (by omega)]; exact e4.out.2.1, by rw [List.getElem?_set_ne (by omega)]; exact e4.out.2.2⟩
      rw [HC5.out] at L15
      clear e4 HC5
      have L16 : Hid (LS w P s2 g2 g3 bv1 fs1 C5 (w15.alloc (.cells #[.pointer (some ⟨f2, 0, none⟩)] 36))) := L15.out.1.later ((Below.refl _ _).alloc (Nat.le_refl _) _)
      have F16 : Hid (FB (w15.alloc (.cells #[.pointer (some ⟨f2, 0, none⟩)] 36)) r2.f r2.v r2.mv r2.mt ∧ cl r2 ∈ C5) := ⟨(((Below.refl w15.heap.size w15).alloc (Nat.le_refl _) _).block _ L15.out.2.1.lt).trans L15.out.2.1, L15.out.2.2⟩
      have hfl : fs1.length ≤ 121 := by rw [HF9.out]; omega
      clear L15
      go_upto_region 27 with (at_builtin; (
        refine wpList_appS rfl (.tmp 87) (.tmp 93) 30 rfl w.heap.size 1 36 ip (.pointer none) 8 Tryz.underlying30 II.out.1 II.out.2.1 II.out.2.2.1 II.out.2.2.2 rfl (by decide) _ fs1.length (fs1.map pt) rfl L16.out.bk ⟨w15.heap.size, 0, none⟩ 1 1 [.pointer (some ⟨f2, 0, none⟩)] rfl rfl (newP w15 _ _) (by intro u hu; rw [List.mem_singleton.1 hu]; rfl) (by unfold maxLen; omega) (by omega) L16.out.bl.size ?_
        intro bv2 w17 p1 p2 p3 p4
        have L17 : Hid (LS w P s2 g2 g3 bv2 (fs1 ++ [r2]) C5 w17) := L16.out.book F16.out.1 F16.out.2 hr2.out.2.1 hr2.out.2.2 (by unfold pt; rw [hr2.out.1]; exact p1) p2
        clear p1 p2 p3 p4 L16 F16))
      have HF17 : Hid ((fs1 ++ [r2]).length = 2 * (i + 1)) := by show _ = _; rw [List.length_append, HF9.out]; have := HQ.out; have := HQ1.out; simp; omega
      obtain ⟨fs2, HFS⟩ : ∃ f, Hid (fs1 ++ [r2] = f) := ⟨_, rfl⟩
      rw [HFS.out] at L17 HF17
      clear hfl hr2 HFS HF9
      obtain ⟨nb, HNB⟩ : ∃ n, Hid (fs2.length = n) := ⟨_, rfl⟩
      have hnb : nb ≤ 122 := by have := HNB.out; have := HF17.out; omega
      obtain ⟨ba, bc_, hbv⟩ := form L17.out.bk
      rw [HNB.out] at hbv
      subst hbv
      go_wp2
      go_loopw [15] (fun kv wr => ∃ k : Nat, k ≤ nb ∧ kv = .int .i64 k ∧ Hid (LS w P s2 g2 g3 (.slice ba nb bc_) fs2 C5 wr)) (fun kv _ => (nb - intOf kv).toNat)
      case atStart => exact ⟨0, by omega, rfl, L17⟩
      case round =>
        clear L17
        obtain ⟨k, hk, rfl, LK⟩ := hrel
        obtain ⟨w18, rfl⟩ : ∃ v, v = wr := ⟨_, rfl⟩
        by_cases hkn : k < nb
        · have hkn' : (k : Int) < nb := by omega
          obtain ⟨r, hr⟩ : ∃ r, fs2[k]? = some r := ⟨_, List.getElem?_eq_getElem (by rw [HNB.out]; exact hkn)⟩
          obtain ⟨b0, rfl⟩ : ∃ g, ba = some ⟨g, 0, none⟩ := by
            rcases LK.out.bk.2 with ⟨e, e2⟩ | ⟨g, cap, cur, e, _⟩
            · rw [HNB.out] at e2; omega
            · exact ⟨g, (Value.slice.inj e).1⟩
          have ck := LS.at LK.out hr
          have CW : Hid (Calls _ _ _ _ _) := LS.whole LK.out (List.mem_of_getElem? hr)
          obtain ⟨rf, HRF⟩ : ∃ f, Hid (r.f = f) := ⟨_, rfl⟩
          rw [HRF.out] at ck CW
          clear hr
          go_wp2_with fail
          refine CW.out.mono ?_
          rintro _ w19 ⟨rfl, bb⟩
          have LK2 : Hid (LS w P s2 g2 g3 (.slice (some ⟨b0, 0, none⟩) nb bc_) fs2 C5 w19) := LK.out.later bb
          clear bb CW ck
          go_wp2
          go_roundw
          case rel => exact ⟨k + 1, by omega, by go_num, LK2⟩
          case measure => simp [intOf]; omega
        · have hkn' : ¬ (k : Int) < nb := by omega
          have CS4 : Hid (Calls _ _ _ _ _) := same_yes w18 cv1 tv1 ks (LK.out.read e5.out.1) (LK.out.read e5.out.2) (by have := HKL.out; omega)
          go_wp2_with fail
          refine CS4.out.mono ?_
          rintro _ w20 ⟨rfl, bb⟩
          have L20 : Hid (LS w P s2 g2 g3 (.slice ba nb bc_) fs2 C5 w20) := LK.out.later bb
          clear bb CS4 LK
          go_wp2
          go_roundw
          case rel => exact ⟨i + 1, s2, g2, g3, fs2, C5, ks, K0 + 1, K0 + 2, by omega, by omega, by go_num, L20, ⟨e5.out.1, e5.out.2, by rw [HKL.out]; omega⟩, HK.out.1, HK.out.2, HF17.out⟩
          case measure => simp [intOf]; omega
    · have HE : Hid (Below w.heap.size w w4) := HO.out.bl
      clear HO HC HB
      by_cases h1 : i < N
      · have d1 : decide ((i : Int) < (N : Int)) = true := decide_eq_true (by omega)
        have d2 : decide ((i : Int) < 60) = false := decide_eq_false (by omega)
        have hlt1 : (i : Int) < N := by omega
        have hlt2 : ¬ (i : Int) < 60 := by omega
        go_wp2
        go_ret
        exact ⟨rfl, HE.out⟩
      · have d1 : decide ((i : Int) < (N : Int)) = false := decide_eq_false (by omega)
        have hlt1 : ¬ (i : Int) < N := by omega
        go_wp2
        go_ret
        exact ⟨rfl, HE.out⟩
theorem lists_walk (c : Int) (wc : (Lit.int .i64 c).wf = true) (v : Value) (l : List Opn) {w : World} (hv : ReadsO w.heap.size w v l) (hz : l.length * 48 ≤ 140737488351232) :
    Calls Tryz.prog 3 #[.int .i64 c, v] w fun e w' => e = .returned (.bool true) ∧ Below w.heap.size w w' := by
  by_cases hc : 0 ≤ c ∧ c ≤ 1073741824
  · exact listsYes c v l w hv (by omega) hc
  · exact listsNo c v w hc
end Go.Proofs.YtlkkibiedlakfaaGreat.ue
