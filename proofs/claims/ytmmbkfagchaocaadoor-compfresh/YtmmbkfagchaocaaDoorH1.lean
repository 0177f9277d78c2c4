import Derived.Test.YtmmbkfagchaocaaDoorA2
import Derived.BigQuiet
import Derived.Laws.OwnMore
import Derived.Maps.AppendAt
import Derived.Test.YtmmbkfagchaocaaDoorA1
namespace Go.Proofs.YtmmbkfagchaocaaDoor.s1
open Go.RowKit Go.PlainAid
open Go.Proofs.YtmmbkfagchaocaaDoor.pl Go.Proofs.YtmmbkfagchaocaaDoor.cp Go.Proofs.YtmmbkfagchaocaaDoor.ka Go.Proofs.YtmmbkfagchaocaaDoor.na Go.Proofs.YtmmbkfagchaocaaDoor.nb Go.Proofs.YtmmbkfagchaocaaDoor.oa Go.Proofs.YtmmbkfagchaocaaDoor.ob
set_option linter.unusedVariables false

theorem textAt {w : World} {a : Option Addr} {n cap : Nat} {L : List ByteArray} (h : ReadsT w (.slice a n cap) L) {k : Nat} {x : ByteArray} (hx : L[k]? = some x) : ∃ b off, a = some ⟨b, off, none⟩ ∧ w.cell? ⟨b, off + k, none⟩ = some (.string x) := by
  obtain ⟨a', cap', e, _, hh⟩ := h
  have hk := (List.getElem?_eq_some_iff.1 hx).1
  obtain ⟨b, off, ha, hc⟩ := hh.resolve_left (by omega)
  injection e with e1 _ _
  refine ⟨b, off, by rw [e1]; exact ha, ?_⟩
  rw [hc k hk, List.getD_eq_getElem?_getD, hx]
  rfl
-- all is the mark
set_option maxHeartbeats 1600000 in
theorem markedY (u v : Value) (l : List ByteArray) (ms : List Md) (mark : ByteArray) (w : World) (h1 : ReadsT w u l) (h2 : ReadsM w v ms) (hl : ∀ x ∈ l, x = mark) (hm : ∀ p ∈ ms, p.2 = mark) (z1 : l.length ≤ 2000000) (z2 : ms.length ≤ 2000000) :
    Calls Tryd.prog 11 #[u, v, .string mark] w fun e w' => e = .returned (.bool true) ∧ w' = w := by
  have H1 : Hid (ReadsT w u l) := h1
  have H2 : Hid (ReadsM w v ms) := h2
  have HL : Hid (∀ x ∈ l, x = mark) := hl
  have HM : Hid (∀ p ∈ ms, p.2 = mark) := hm
  obtain ⟨a, cap, rfl, _⟩ := h1
  obtain ⟨a', cap', rfl, _⟩ := h2
  obtain ⟨n, HN⟩ : ∃ n, Hid (l.length = n) := ⟨_, rfl⟩
  obtain ⟨m, HK⟩ : ∃ n, Hid (ms.length = n) := ⟨_, rfl⟩
  rw [HN.out] at H1 z1 ⊢
  rw [HK.out] at H2 z2 ⊢
  have q3 : (mark.toList == mark.toList) = true := beq_self_eq_true _
  clear hl hm
  go_enter Tryd.func11, Tryd.ntmps11
  go_wp2
  go_loopw [7] (fun i wr => ∃ k : Nat, k ≤ n ∧ i = .int .i64 k ∧ wr = w) (fun i _ => (n - intOf i).toNat)
  case atStart => exact ⟨0, by omega, rfl, rfl⟩
  case round =>
    obtain ⟨k, hk, rfl, rfl⟩ := hrel
    by_cases hlt : k < n
    · have hlt' : (k : Int) < n := by omega
      have hkx : k < l.length := by rw [HN.out]; exact hlt
      obtain ⟨b, off, rfl, c1⟩ := textAt H1.out (List.getElem?_eq_getElem hkx)
      rw [HL.out _ (List.getElem_mem hkx)] at c1
      go_wp2
      go_roundw
      case rel => exact ⟨k + 1, by omega, by go_num, by first | rfl | trivial⟩
      case measure => simp [intOf]; omega
    · have hlt' : ¬ (k : Int) < n := by omega
      obtain ⟨W, HW⟩ : ∃ W, W = wr := ⟨_, rfl⟩
      subst HW
      go_wp2
      go_loopw [8] (fun i wr => ∃ k : Nat, k ≤ m ∧ i = .int .i64 k ∧ wr = W) (fun i _ => (m - intOf i).toNat)
      case atStart => exact ⟨0, by omega, rfl, rfl⟩
      case round =>
        obtain ⟨q, hq, rfl, rfl⟩ := hrel
        by_cases hlq : q < m
        · have hlq' : (q : Int) < m := by omega
          have hqx : q < ms.length := by rw [HK.out]; exact hlq
          obtain ⟨x, HX⟩ : ∃ x, Hid (ms[q]? = some x) := ⟨_, List.getElem?_eq_getElem hqx⟩
          obtain ⟨b, rfl, c1, c2, c3⟩ := row_atM H2.out HX.out
          have hx : x.2 = mark := HM.out x (List.mem_of_getElem? HX.out)
          rw [hx] at c3
          go_wp2
          go_roundw
          case rel => exact ⟨q + 1, by omega, by go_num, by first | rfl | trivial⟩
          case measure => simp [intOf]; omega
        · have hlq' : ¬ (q : Int) < m := by omega
          go_wp2
          go_ret
          exact ⟨rfl, rfl⟩
end Go.Proofs.YtmmbkfagchaocaaDoor.s1

namespace Go.Proofs.YtmmbkfagchaocaaDoor.s2
open Go.RowKit Go.PlainAid
open Go.Proofs.YtmmbkfagchaocaaDoor.cp Go.Proofs.YtmmbkfagchaocaaDoor.ka
set_option linter.unusedVariables false

-- an append, and what stands of the rows that share the block (elements of any size)
theorem run_appS {P : Program} (w : World) (B sz : Nat) (t ty e : TypeId) (i : TypeInfo) (z : Value) (bytes : Nat) (ht : P.underlying t = some (.slice e)) (hi : P.info? e = some i) (hz : i.zero = some z)
    (hsize : i.size = sz) (hby : i.bytes = bytes) (hzs : z.cells.size = sz) (hsz : 0 < sz) (v : Value) (n : Nat) (xs : List Value) (hown : w.ownsRow B e sz v n xs)
    (a : Addr) (m c : Nat) (news : List Value) (hl : news.length = m * sz) (hnews : ∀ j u, news[j]? = some u → w.cell? (a.add j) = some u) (h1 : ∀ u ∈ news, u.oneCell' = true) (h63 : n + m ≤ maxLen) (hbytes : (n + m) * bytes ≤ 140737488355328) (hB : B ≤ w.heap.size) :
    ∃ v' w', (Builtin.append_ #[t, t] ty #[v, .slice (some a) m c]).run P w = .ok v' w' ∧ w'.ownsRow B e sz v' (n + m) (xs ++ news) ∧ w.grownBy w' v.ownBlock ∧ (v'.ownBlock = v.ownBlock ∨ v'.ownBlock = some w.heap.size) ∧
      ∀ p k ps, w.ownsRow B e sz p k ps → (p.ownBlock = v.ownBlock → k ≤ n) → w'.ownsRow B e sz p k ps := by
  obtain ⟨v', w', hr, h2, h3, h4, h5⟩ := run_append_own_at (P := P) w B t ty e i z sz bytes ht hi hz hsize hby hzs hsz v n xs hown a m c news hl hnews h1 h63 hbytes hB
  refine ⟨v', w', hr, h2, h3, h5, fun p k ps hp hk => ?_⟩
  by_cases hne : p.ownBlock = none ∨ p.ownBlock ≠ v.ownBlock
  · exact hp.kept h3 hne
  · have hpn : p.ownBlock ≠ none := fun e => hne (.inl e)
    have hpe : p.ownBlock = v.ownBlock := by by_cases e : p.ownBlock = v.ownBlock; exact e; exact absurd (.inr e) hne
    have hkn := hk hpe
    rcases hown.2 with ⟨rfl, rfl⟩ | ⟨g, cap, cur, rfl, hbg, hg, hnc, hcm, hcs, htake⟩
    · exact absurd hpe hpn
    · rcases hp.2 with ⟨rfl, _⟩ | ⟨g2, cap2, cur2, rfl, hbg2, hg2, hnc2, hcm2, hcs2, htake2⟩
      · exact absurd rfl hpn
      · have eg : g2 = g := Option.some.inj hpe
        subst eg
        have ec : cur2 = cur := by
          rw [hg] at hg2
          have := Option.some.inj hg2
          injection this with q1 q2 q3
          exact q1.symm
        subst ec
        have ecap : cap2 = cap := Nat.eq_of_mul_eq_mul_right hsz (hcs2.symm.trans hcs)
        subst ecap
        by_cases hroom : n + m ≤ cap2
        · have hr2 := run_append_room (P := P) w t ty e i ht hi g2 n cap2 cur2 hg a m c news (by rw [hsize]; exact hl) hnews h1 hroom (by rw [hsize, hl, hcs, ← Nat.add_mul]; exact Nat.mul_le_mul_right _ hroom)
          rw [hr] at hr2
          injection hr2 with q1 q2
          subst q1
          rcases h2.2 with ⟨q, _⟩ | ⟨g3, cap3, cur3, q, hbg3, hg3, hnc3, hcm3, hcs3, htake3⟩
          · cases q
          · have qa := Value.slice.inj q
            have qb : g2 = g3 := congrArg Addr.block (Option.some.inj qa.1)
            have qc : cap2 = cap3 := qa.2.2
            subst qb qc
            refine ⟨hp.1, .inr ⟨g2, cap2, cur3, rfl, hbg2, hg3, hnc2, hcm2, hcs3, ?_⟩⟩
            have e1 : cur3.toList.take (k * sz) = ((cur3.toList.take ((n + m) * sz)).take (k * sz)) := by rw [List.take_take, Nat.min_eq_left (Nat.mul_le_mul_right _ (by omega))]
            have e2 : cur2.toList.take (k * sz) = ((cur2.toList.take (n * sz)).take (k * sz)) := by rw [List.take_take, Nat.min_eq_left (Nat.mul_le_mul_right _ hkn)]
            rw [e1, htake3, ← htake2, e2, htake, List.take_append_of_le_length (by rw [hown.1]; exact Nat.mul_le_mul_right _ hkn)]
        · have holds : ∀ j u, xs[j]? = some u → w.cell? ((⟨g2, 0, none⟩ : Addr).add j) = some u := hown.cells (g := g2) rfl
          have hr2 := run_append_grow (P := P) w t ty e i z ht hi hz ⟨g2, 0, none⟩ n cap2 xs (by rw [hsize]; exact hown.1) holds a m c news (by rw [hsize]; exact hl) hnews (by omega) (by simp only [maxLen] at h63; omega) (growslice_fits (by omega) (by rw [hby]; exact hbytes))
          rw [hr] at hr2
          injection hr2 with q1 q2
          refine ⟨hp.1, .inr ⟨g2, cap2, cur2, rfl, hbg2, ?_, hnc2, hcm2, hcs2, htake2⟩⟩
          rw [q2]
          exact (heap_alloc_old w.drew _ (Array.getElem?_eq_some_iff.1 hg2).1).trans hg2
theorem wpList_appS {P : Program} {w : World} {ops : Array Oper} {rest : List Oper} {o : Oper} {a : Act} {Q : Exit → Act → World → Prop} (hgd : o.guard = none) (s x : Operand) (t : TypeId)
    (ho : o.op = .call { callee := .builtin .append, args := #[s, x], argTypes := #[t, t] })
    (B sz : Nat) (e : TypeId) (i : TypeInfo) (z : Value) (bytes : Nat) (ht : P.underlying t = some (.slice e)) (hi : P.info? e = some i) (hz : i.zero = some z)
    (hsize : i.size = sz) (hby : i.bytes = bytes) (hzs : z.cells.size = sz) (hsz : 0 < sz)
    (v : Value) (n : Nat) (xs : List Value) (hs : a.eval s = v) (hown : w.ownsRow B e sz v n xs)
    (ad : Addr) (m c : Nat) (news : List Value) (hx : a.eval x = .slice (some ad) m c) (hl : news.length = m * sz) (hnews : ∀ j u, news[j]? = some u → w.cell? (ad.add j) = some u) (h1 : ∀ u ∈ news, u.oneCell' = true)
    (h63 : n + m ≤ maxLen) (hbytes : (n + m) * bytes ≤ 140737488355328) (hB : B ≤ w.heap.size)
    (h : ∀ v' w', w'.ownsRow B e sz v' (n + m) (xs ++ news) → w.grownBy w' v.ownBlock → (v'.ownBlock = v.ownBlock ∨ v'.ownBlock = some w.heap.size) → (∀ p k ps, w.ownsRow B e sz p k ps → (p.ownBlock = v.ownBlock → k ≤ n) → w'.ownsRow B e sz p k ps) → wpList P ops Q rest (a.put o.dst v') w') :
    wpList P ops Q (o :: rest) a w := by
  refine wpList_plain hgd fun K hK => ?_
  obtain ⟨v', w', hr, h2, h3, h4, h5⟩ := run_appS (P := P) w B sz t o.type e i z bytes ht hi hz hsize hby hzs hsz v n xs hown ad m c news hl hnews h1 h63 hbytes hB
  unfold Oper.wp execOp
  simp only [ho, resolve, invoke, builtin, Sem.run_bind, Sem.run_pure, Result.andThen_ok, List.map_toArray, List.map_cons, List.map_nil, hs, hx, hr]
  exact hK _ _ (h v' w' h2 h3 h4 h5)

-- rows in clusters: rows of one cluster may share a block, those of two do not
structure Clu (w : World) (B t sz : Nat) (C : List (List (Value × List Value))) : Prop where
  own : ∀ c ∈ C, ∀ p ∈ c, ∃ n, w.ownsRow B t sz p.1 n p.2
  apart : C.Pairwise fun c d => ∀ p ∈ c, ∀ q ∈ d, ∀ g, p.1.ownBlock = some g → q.1.ownBlock ≠ some g
section
variable {w w' : World} {B t sz : Nat} {C : List (List (Value × List Value))}
theorem Clu.later (h : Clu w B t sz C) (b : Below w.heap.size w w') : Clu w' B t sz C := ⟨fun c hc p hp => by obtain ⟨n, ho⟩ := h.own c hc p hp; exact ⟨n, own_later ho b⟩, h.apart⟩
theorem Clu.ne (h : Clu w B t sz C) {i j : Nat} {c d : List (Value × List Value)} (hi : C[i]? = some c) (hj : C[j]? = some d) (hij : i ≠ j) : ∀ p ∈ c, ∀ q ∈ d, ∀ g, p.1.ownBlock = some g → q.1.ownBlock ≠ some g := by
  obtain ⟨hi1, hi2⟩ := List.getElem?_eq_some_iff.1 hi
  obtain ⟨hj1, hj2⟩ := List.getElem?_eq_some_iff.1 hj
  rcases Nat.lt_or_gt_of_ne hij with e | e
  · have := List.pairwise_iff_getElem.1 h.apart i j hi1 hj1 e
    rw [hi2, hj2] at this
    exact this
  · have := List.pairwise_iff_getElem.1 h.apart j i hj1 hi1 e
    rw [hi2, hj2] at this
    intro p hp q hq g e1 e2
    exact this q hq p hp g e2 e1
-- one cluster turned: what is written lies in a block of its own rows; new rows lie in its blocks or in new memory
theorem Clu.turn (h : Clu w B t sz C) {i : Nat} {c c' : List (Value × List Value)} (hi : C[i]? = some c) {r : Option Nat} (hr : ∃ p ∈ c, p.1.ownBlock = r) (hg : w.grownBy w' r) (ho : ∀ p ∈ c', ∃ n, w'.ownsRow B t sz p.1 n p.2) (hn : ∀ p ∈ c', (∃ q ∈ c, p.1.ownBlock = q.1.ownBlock) ∨ ∃ g, p.1.ownBlock = some g ∧ w.heap.size ≤ g) : Clu w' B t sz (C.set i c') := by
  obtain ⟨hi1, hi2⟩ := List.getElem?_eq_some_iff.1 hi
  have far : ∀ j d, C[j]? = some d → j ≠ i → ∀ p ∈ d, ∃ n, w'.ownsRow B t sz p.1 n p.2 := fun j d hj hji p hp => by
    obtain ⟨n, hp2⟩ := h.own d (List.mem_iff_getElem?.2 ⟨j, hj⟩) p hp
    refine ⟨n, World.ownsRow.kept hp2 hg ?_⟩
    cases hvb : p.1.ownBlock with
    | none => exact .inl rfl
    | some g =>
      obtain ⟨q, hq, e⟩ := hr
      refine .inr (fun e' => ?_)
      rw [← e] at e'
      exact h.ne hj hi hji p hp q hq g hvb e'.symm
  have ap : ∀ j d, C[j]? = some d → j ≠ i → ∀ p ∈ d, ∀ q ∈ c', ∀ g, p.1.ownBlock = some g → q.1.ownBlock ≠ some g := fun j d hj hji p hp q hq g e1 e2 => by
    rcases hn q hq with ⟨q', hq', e⟩ | ⟨g', e, hlt⟩
    · rw [e] at e2
      exact h.ne hj hi hji p hp q' hq' g e1 e2
    · obtain ⟨n, hp2⟩ := h.own d (List.mem_iff_getElem?.2 ⟨j, hj⟩) p hp
      have h1 := (hp2.lt g e1).2
      rw [e2] at e
      have := Option.some.inj e
      omega
  refine ⟨fun d hd p hp => ?_, ?_⟩
  · obtain ⟨j, hj⟩ := List.mem_iff_getElem?.1 hd
    by_cases e : j = i
    · subst e
      rw [List.getElem?_set_self hi1] at hj
      obtain rfl := Option.some.inj hj
      exact ho p hp
    · rw [List.getElem?_set_ne (Ne.symm e)] at hj
      exact far j d hj e p hp
  · apply List.pairwise_iff_getElem.2
    intro a b ha hb hab p hp q hq g e1 e2
    rw [List.length_set] at ha hb
    rw [List.getElem_set] at hp hq
    by_cases e : i = a
    · rw [if_pos e] at hp
      rw [if_neg (by omega)] at hq
      exact ap b _ (List.getElem?_eq_getElem hb) (by omega) q hq p hp g e2 e1
    · rw [if_neg e] at hp
      by_cases e' : i = b
      · rw [if_pos e'] at hq
        exact ap a _ (List.getElem?_eq_getElem ha) (fun x => e x.symm) p hp q hq g e1 e2
      · rw [if_neg e'] at hq
        exact List.pairwise_iff_getElem.1 h.apart a b ha hb hab p hp q hq g e1 e2
-- one cluster more, of a row that was made since
theorem Clu.add (h : Clu w B t sz C) {v : Value} {xs : List Value} {n : Nat} (b : Below w.heap.size w w') (ho : w'.ownsRow w.heap.size t sz v n xs) (hB : B ≤ w.heap.size) : Clu w' B t sz (C ++ [[(v, xs)]]) := by
  refine ⟨fun c hc p hp => ?_, ?_⟩
  · rcases List.mem_append.1 hc with hc | hc
    · obtain ⟨m, hm⟩ := h.own c hc p hp
      exact ⟨m, own_later hm b⟩
    · obtain rfl : c = [(v, xs)] := by simpa using hc
      obtain rfl : p = (v, xs) := by simpa using hp
      exact ⟨n, own_down ho hB⟩
  · refine List.pairwise_append.2 ⟨h.apart, List.pairwise_singleton _ _, fun c hc d hd p hp q hq g e e' => ?_⟩
    obtain rfl : d = [(v, xs)] := by simpa using hd
    obtain rfl : q = (v, xs) := by simpa using hq
    obtain ⟨m, hm⟩ := h.own c hc p hp
    have h1 := (hm.lt g e).2
    have h2 := (ho.lt g e').1
    omega
end
end Go.Proofs.YtmmbkfagchaocaaDoor.s2

namespace Go.Proofs.YtmmbkfagchaocaaDoor.s3
open Go.RowKit Go.PlainAid
open Go.Proofs.YtmmbkfagchaocaaDoor.pl Go.Proofs.YtmmbkfagchaocaaDoor.pg Go.Proofs.YtmmbkfagchaocaaDoor.cp Go.Proofs.YtmmbkfagchaocaaDoor.ka Go.Proofs.YtmmbkfagchaocaaDoor.na Go.Proofs.YtmmbkfagchaocaaDoor.oa Go.Proofs.YtmmbkfagchaocaaDoor.ob Go.Proofs.YtmmbkfagchaocaaDoor.s1 Go.Proofs.YtmmbkfagchaocaaDoor.s2
set_option linter.unusedVariables false

-- the mark of an answer
def mkA (k : Nat) : ByteArray := ⟨#[UInt8.ofNat (97 + k)]⟩
def mkK (k : Nat) : ByteArray := (⟨#[109, 97, 114, 107]⟩ : ByteArray) ++ mkA k
theorem mark_str (k : Nat) (hk : k ≤ 9) : str [((97 + k : Nat) : Int)] = mkA k := by
  have : ∀ n : Fin 10, str [((97 + n.val : Nat) : Int)] = mkA n.val := by decide
  exact this ⟨k, by omega⟩
-- all of it is the mark of that number
set_option maxHeartbeats 1600000 in
theorem fullY (u v : Value) (l : List ByteArray) (ms : List Md) (k : Nat) (hk : k ≤ 9) (w : World) (h1 : ReadsT w u l) (h2 : ReadsM w v ms) (hl : ∀ x ∈ l, x = mkK k) (hm : ∀ p ∈ ms, p.2 = mkK k) (z1 : l.length ≤ 2000000) (z2 : ms.length ≤ 2000000) :
    Calls Tryd.prog 55 #[u, v, .int .i64 k] w fun e w' => e = .returned (.bool true) ∧ Below w.heap.size w w' := by
  have hcv := own_conv (w.alloc (.cells #[.int .u8 ((97 + k : Nat) : Int)] 5)) w.heap.size (.slice (some ⟨w.heap.size, 0, none⟩) 1 1) [((97 + k : Nat) : Int)] 1 rfl (by omega) (World.ownsRow_lit w #[.int .u8 ((97 + k : Nat) : Int)] 1 (Nat.le_refl _) (by unfold maxLen; omega) rfl)
  rw [mark_str k hk] at hcv
  have B0 : Hid (Below w.heap.size w (w.alloc (.cells #[.int .u8 ((97 + k : Nat) : Int)] 5))) := (Below.refl _ _).alloc (Nat.le_refl _) _
  have CM : Hid (∀ W, Below w.heap.size w W → Calls Tryd.prog 11 #[u, v, .string (mkK k)] W fun e w' => e = .returned (.bool true) ∧ w' = W) := fun W b => markedY u v l ms (mkK k) W (h1.later b) (h2.later b) hl hm z1 z2
  obtain ⟨c, HC⟩ : ∃ c : Nat, Hid (97 + k = c) := ⟨_, rfl⟩
  have g2 : (97 : Int) + (k : Int) = (c : Int) := by have := HC.out; omega
  have g3 : IntKind.u8.wrap (c : Int) = c := by rw [IntKind.wrap_u8']; have := HC.out; omega
  have g4 : IntKind.i64.wrap (c : Int) = c := by rw [IntKind.wrap_i64]; have := HC.out; omega
  have zz : (mkA k).size = 1 := rfl
  have z4 : (⟨#[109, 97, 114, 107]⟩ : ByteArray).size = 4 := rfl
  rw [HC.out] at hcv B0
  unfold mkK at CM
  obtain ⟨y, HY⟩ : ∃ y, Hid (mkA k = y) := ⟨_, rfl⟩
  rw [HY.out] at hcv CM zz
  obtain ⟨a, cap, rfl, _⟩ := h1
  obtain ⟨a', cap', rfl, _⟩ := h2
  obtain ⟨n, HN⟩ : ∃ n, Hid (l.length = n) := ⟨_, rfl⟩
  obtain ⟨m, HK⟩ : ∃ n, Hid (ms.length = n) := ⟨_, rfl⟩
  rw [HN.out, HK.out] at CM ⊢
  clear hl hm z1 z2 HY
  go_enter Tryd.func55, Tryd.ntmps55
  go_wp2_with fail
  refine (CM.out _ B0.out).mono ?_
  rintro e w1 ⟨rfl, hw1⟩
  rw [hw1]
  clear hw1
  go_wp2
  go_ret
  exact ⟨rfl, B0.out⟩
-- rows of unlike elements lie apart
theorem own_apart {w : World} {B B' e e' s s' n n' : Nat} {v v' : Value} {xs xs' : List Value} (h : w.ownsRow B e s v n xs) (h' : w.ownsRow B' e' s' v' n' xs') (hne : e ≠ e') : v.ownBlock = none ∨ v.ownBlock ≠ v'.ownBlock := by
  cases hg : v.ownBlock with
  | none => exact .inl rfl
  | some g =>
    refine .inr (fun hg' => ?_)
    rcases h.2 with ⟨rfl, _⟩ | ⟨g1, cap, cur, rfl, _, h3, _⟩
    · cases hg
    · rcases h'.2 with ⟨rfl, _⟩ | ⟨g2, cap2, cur2, rfl, _, k3, _⟩
      · cases hg'
      · have e1 : g1 = g := Option.some.inj hg
        have e2 : g = g2 := Option.some.inj hg'
        subst e1 e2
        rw [h3] at k3
        injection k3 with k3
        injection k3 with _ k3 _
        exact hne k3
-- the lists of answers: their rows in clusters, and the two lists that name the first of each
def fsts (C : List (List (Value × List Value))) : List Value := C.map fun c => ((c.headD (.slice none 0 0, [])).1)
structure Ap (w0 : World) (B bH bM K cH cM : Nat) (H M : List (List (Value × List Value))) (w : World) : Prop where
  rH : w.ownsRow B 22 1 (.slice (some ⟨bH, 0, none⟩) K cH) K (fsts H)
  rM : w.ownsRow B 25 1 (.slice (some ⟨bM, 0, none⟩) K cM) K (fsts M)
  cH : Clu w B 9 1 H
  cM : Clu w B 38 3 M
  fr : Below w0.heap.size w0 w
  hB : w0.heap.size ≤ B
section
variable {w0 w w' : World} {B bH bM K cH cM : Nat} {H M : List (List (Value × List Value))}
theorem Clu.far {t sz t' sz' n : Nat} {C : List (List (Value × List Value))} {v : Value} {xs : List Value} (h : Clu w B t sz C) (ho : w.ownsRow B t' sz' v n xs) (hne : t ≠ t') (hg : w.grownBy w' v.ownBlock) : Clu w' B t sz C :=
  ⟨fun c hc p hp => by obtain ⟨m, hm⟩ := h.own c hc p hp; exact ⟨m, hm.kept hg (own_apart hm ho hne)⟩, h.apart⟩
theorem Ap.later (h : Ap w0 B bH bM K cH cM H M w) (b : Below w.heap.size w w') : Ap w0 B bH bM K cH cM H M w' := ⟨own_later h.rH b, own_later h.rM b, h.cH.later b, h.cM.later b, over h.fr b, h.hB⟩
theorem grown_fr {r : Option Nat} (h : Below w0.heap.size w0 w) (hg : w.grownBy w' r) (hr : ∀ g, r = some g → w0.heap.size ≤ g) : Below w0.heap.size w0 w' := Below.grown h hg h.size (fun j hj => hr j hj)
-- a row of texts is turned
theorem Ap.turnH (h : Ap w0 B bH bM K cH cM H M w) {k n : Nat} {c c' : List (Value × List Value)} {v : Value} {xs : List Value} (hk : H[k]? = some c) (hv : (v, xs) ∈ c) (hown : w.ownsRow B 9 1 v n xs) (hg : w.grownBy w' v.ownBlock) (ho : ∀ p ∈ c', ∃ n, w'.ownsRow B 9 1 p.1 n p.2) (hn : ∀ p ∈ c', (∃ q ∈ c, p.1.ownBlock = q.1.ownBlock) ∨ ∃ g, p.1.ownBlock = some g ∧ w.heap.size ≤ g) (hf : (c'.headD (.slice none 0 0, [])).1 = (c.headD (.slice none 0 0, [])).1) : Ap w0 B bH bM K cH cM (H.set k c') M w' := by
  have e : fsts (H.set k c') = fsts H := by
    unfold fsts
    rw [List.map_set, hf]
    apply List.ext_getElem?
    intro j
    by_cases q : j = k
    · subst q
      rw [List.getElem?_set_self (by rw [List.length_map]; exact (List.getElem?_eq_some_iff.1 hk).1), List.getElem?_map, hk]
      rfl
    · rw [List.getElem?_set_ne (Ne.symm q)]
  refine ⟨?_, h.rM.kept hg (own_apart h.rM hown (by decide)), h.cH.turn hk ⟨_, hv, rfl⟩ hg ho hn, Clu.far h.cM hown (by decide) hg, grown_fr h.fr hg (fun g e => Nat.le_trans h.hB (hown.lt g e).1), h.hB⟩
  rw [e]
  exact h.rH.kept hg (own_apart h.rH hown (by decide))
theorem Ap.turnM (h : Ap w0 B bH bM K cH cM H M w) {k n : Nat} {c c' : List (Value × List Value)} {v : Value} {xs : List Value} (hk : M[k]? = some c) (hv : (v, xs) ∈ c) (hown : w.ownsRow B 38 3 v n xs) (hg : w.grownBy w' v.ownBlock) (ho : ∀ p ∈ c', ∃ n, w'.ownsRow B 38 3 p.1 n p.2) (hn : ∀ p ∈ c', (∃ q ∈ c, p.1.ownBlock = q.1.ownBlock) ∨ ∃ g, p.1.ownBlock = some g ∧ w.heap.size ≤ g) (hf : (c'.headD (.slice none 0 0, [])).1 = (c.headD (.slice none 0 0, [])).1) : Ap w0 B bH bM K cH cM H (M.set k c') w' := by
  have e : fsts (M.set k c') = fsts M := by
    unfold fsts
    rw [List.map_set, hf]
    apply List.ext_getElem?
    intro j
    by_cases q : j = k
    · subst q
      rw [List.getElem?_set_self (by rw [List.length_map]; exact (List.getElem?_eq_some_iff.1 hk).1), List.getElem?_map, hk]
      rfl
    · rw [List.getElem?_set_ne (Ne.symm q)]
  refine ⟨h.rH.kept hg (own_apart h.rH hown (by decide)), ?_, Clu.far h.cH hown (by decide) hg, h.cM.turn hk ⟨_, hv, rfl⟩ hg ho hn, grown_fr h.fr hg (fun g e => Nat.le_trans h.hB (hown.lt g e).1), h.hB⟩
  rw [e]
  exact h.rM.kept hg (own_apart h.rM hown (by decide))
-- a text is written over
theorem Ap.putH (h : Ap w0 B bH bM K cH cM H M w) {k n g cp i : Nat} {xs : List Value} (hk : H[k]? = some [(.slice (some ⟨g, 0, none⟩) n cp, xs)]) (x : ByteArray) : Ap w0 B bH bM K cH cM (H.set k [(.slice (some ⟨g, 0, none⟩) n cp, xs.set i (.string x))]) M (w.setCell ⟨g, i, none⟩ (.string x)) := by
  obtain ⟨m, hown⟩ := h.cH.own _ (List.mem_iff_getElem?.2 ⟨k, hk⟩) _ (List.mem_singleton.2 rfl)
  have hm : m = n := by
    rcases hown.2 with ⟨e, _⟩ | ⟨g1, cap, cur, e, _⟩
    · cases e
    · exact (Value.slice.inj e).2.1.symm
  subst hm
  obtain ⟨h1, h2⟩ := World.ownsRow.stored hown i (.string x)
  exact h.turnH hk (List.mem_singleton.2 rfl) hown h2 (fun p hp => by obtain rfl := List.mem_singleton.1 hp; exact ⟨_, h1⟩) (fun p hp => by obtain rfl := List.mem_singleton.1 hp; exact .inl ⟨_, List.mem_singleton.2 rfl, rfl⟩) rfl
end
end Go.Proofs.YtmmbkfagchaocaaDoor.s3

namespace Go.Proofs.YtmmbkfagchaocaaDoor.s4
open Go.RowKit Go.PlainAid
open Go.Proofs.YtmmbkfagchaocaaDoor.cp Go.Proofs.YtmmbkfagchaocaaDoor.ka Go.Proofs.YtmmbkfagchaocaaDoor.na Go.Proofs.YtmmbkfagchaocaaDoor.oa Go.Proofs.YtmmbkfagchaocaaDoor.ob Go.Proofs.YtmmbkfagchaocaaDoor.s1 Go.Proofs.YtmmbkfagchaocaaDoor.s2 Go.Proofs.YtmmbkfagchaocaaDoor.s3
set_option linter.unusedVariables false

theorem mls_set (L : List Md) (i : Nat) (hi : i < L.length) (x : Md) : (((mls L).set (i * 3) (.int .i64 (x.1.1 : Nat))).set (i * 3 + 1) (.int .i64 (x.1.2 : Nat))).set (i * 3 + 2) (.string x.2) = mls (L.set i x) := by
  induction L generalizing i with
  | nil => simp at hi
  | cons a L ih =>
    cases i with
    | zero => rfl
    | succ i =>
      have e1 : (i + 1) * 3 = i * 3 + 1 + 1 + 1 := by omega
      have e : ∀ L : List Md, ∀ b, mls (b :: L) = .int .i64 (b.1.1 : Nat) :: .int .i64 (b.1.2 : Nat) :: .string b.2 :: mls L := fun _ _ => rfl
      rw [List.set_cons_succ, e, e, ← ih i (by simpa using hi), e1]
      rfl
section
variable {w0 w w' : World} {B bH bM K cH cM : Nat} {H M : List (List (Value × List Value))}
-- a cell of a made row is written over
theorem Ap.putM (h : Ap w0 B bH bM K cH cM H M w) {k n g cp : Nat} {xs : List Value} (hk : M[k]? = some [(.slice (some ⟨g, 0, none⟩) n cp, xs)]) (i : Nat) (x : Value) : Ap w0 B bH bM K cH cM H (M.set k [(.slice (some ⟨g, 0, none⟩) n cp, xs.set i x)]) (w.setCell ⟨g, i, none⟩ x) := by
  obtain ⟨m, hown⟩ := h.cM.own _ (List.mem_iff_getElem?.2 ⟨k, hk⟩) _ (List.mem_singleton.2 rfl)
  have hm : m = n := by
    rcases hown.2 with ⟨e, _⟩ | ⟨g1, cap, cur, e, _⟩
    · cases e
    · exact (Value.slice.inj e).2.1.symm
  subst hm
  obtain ⟨h1, h2⟩ := World.ownsRow.stored hown i x
  exact h.turnM hk (List.mem_singleton.2 rfl) hown h2 (fun p hp => by obtain rfl := List.mem_singleton.1 hp; exact ⟨_, h1⟩) (fun p hp => by obtain rfl := List.mem_singleton.1 hp; exact .inl ⟨_, List.mem_singleton.2 rfl, rfl⟩) rfl
theorem Ap.putM3 (h : Ap w0 B bH bM K cH cM H M w) {k n g cp i : Nat} {L : List Md} (hk : M[k]? = some [(.slice (some ⟨g, 0, none⟩) n cp, mls L)]) (hi : i < L.length) (x : Md) : Ap w0 B bH bM K cH cM H (M.set k [(.slice (some ⟨g, 0, none⟩) n cp, mls (L.set i x))]) (((w.setCell ⟨g, i * 3, none⟩ (.int .i64 (x.1.1 : Nat))).setCell ⟨g, i * 3 + 1, none⟩ (.int .i64 (x.1.2 : Nat))).setCell ⟨g, i * 3 + 2, none⟩ (.string x.2)) := by
  have hl := (List.getElem?_eq_some_iff.1 hk).1
  have a1 := Ap.putM h hk (i * 3) (.int .i64 (x.1.1 : Nat))
  have a2 := Ap.putM a1 (List.getElem?_set_self hl) (i * 3 + 1) (.int .i64 (x.1.2 : Nat))
  have a3 := Ap.putM a2 (List.getElem?_set_self (by rw [List.length_set]; exact hl)) (i * 3 + 2) (.string x.2)
  rw [List.set_set, List.set_set, mls_set L i hi x] at a3
  exact a3
-- an answer is taken to be made longer
theorem Ap.openH (h : Ap w0 B bH bM K cH cM H M w) {k : Nat} {v : Value} {xs : List Value} (hk : H[k]? = some [(v, xs)]) : Ap w0 B bH bM K cH cM (H.set k [(v, xs), (v, xs)]) M w := by
  obtain ⟨m, hown⟩ := h.cH.own _ (List.mem_iff_getElem?.2 ⟨k, hk⟩) _ (List.mem_singleton.2 rfl)
  refine h.turnH hk (List.mem_singleton.2 rfl) hown (World.grownBy.refl _ _) (fun p hp => ?_) (fun p hp => ?_) rfl
  · obtain rfl : p = (v, xs) := by simpa using hp
    exact ⟨m, hown⟩
  · obtain rfl : p = (v, xs) := by simpa using hp
    exact .inl ⟨_, List.mem_singleton.2 rfl, rfl⟩
theorem Ap.openM (h : Ap w0 B bH bM K cH cM H M w) {k : Nat} {v : Value} {xs : List Value} (hk : M[k]? = some [(v, xs)]) : Ap w0 B bH bM K cH cM H (M.set k [(v, xs), (v, xs)]) w := by
  obtain ⟨m, hown⟩ := h.cM.own _ (List.mem_iff_getElem?.2 ⟨k, hk⟩) _ (List.mem_singleton.2 rfl)
  refine h.turnM hk (List.mem_singleton.2 rfl) hown (World.grownBy.refl _ _) (fun p hp => ?_) (fun p hp => ?_) rfl
  · obtain rfl : p = (v, xs) := by simpa using hp
    exact ⟨m, hown⟩
  · obtain rfl : p = (v, xs) := by simpa using hp
    exact .inl ⟨_, List.mem_singleton.2 rfl, rfl⟩
-- the longer one grows: the answer beside it stands
theorem Ap.pushH (h : Ap w0 B bH bM K cH cM H M w) {k n n' : Nat} {v y y' : Value} {xs ys ys' : List Value} (hk : H[k]? = some [(v, xs), (y, ys)]) (hle : xs.length ≤ ys.length) (hown : w.ownsRow B 9 1 y n ys) (h1 : w'.ownsRow B 9 1 y' n' ys') (hg : w.grownBy w' y.ownBlock) (hb : y'.ownBlock = y.ownBlock ∨ y'.ownBlock = some w.heap.size) (hkeep : ∀ p k ps, w.ownsRow B 9 1 p k ps → (p.ownBlock = y.ownBlock → k ≤ n) → w'.ownsRow B 9 1 p k ps) : Ap w0 B bH bM K cH cM (H.set k [(v, xs), (y', ys')]) M w' := by
  have hc : [(v, xs), (y, ys)] ∈ H := List.mem_iff_getElem?.2 ⟨k, hk⟩
  obtain ⟨m, hv⟩ := h.cH.own _ hc (v, xs) (by simp)
  have hmn : m ≤ n := by have a := hv.1; have b := hown.1; simp only [Nat.mul_one] at a b; omega
  refine h.turnH hk (v := y) (xs := ys) (by simp) hown hg (fun p hp => ?_) (fun p hp => ?_) rfl
  · rcases List.mem_cons.1 hp with rfl | hp
    · exact ⟨m, hkeep _ _ _ hv fun _ => hmn⟩
    · obtain rfl := List.mem_singleton.1 hp
      exact ⟨n', h1⟩
  · rcases List.mem_cons.1 hp with rfl | hp
    · exact .inl ⟨(v, xs), by simp, rfl⟩
    · obtain rfl := List.mem_singleton.1 hp
      rcases hb with e | e
      · exact .inl ⟨(y, ys), by simp, e⟩
      · exact .inr ⟨_, e, Nat.le_refl _⟩
theorem Ap.pushM (h : Ap w0 B bH bM K cH cM H M w) {k n n' : Nat} {v y y' : Value} {xs ys ys' : List Value} (hk : M[k]? = some [(v, xs), (y, ys)]) (hle : xs.length ≤ ys.length) (hown : w.ownsRow B 38 3 y n ys) (h1 : w'.ownsRow B 38 3 y' n' ys') (hg : w.grownBy w' y.ownBlock) (hb : y'.ownBlock = y.ownBlock ∨ y'.ownBlock = some w.heap.size) (hkeep : ∀ p k ps, w.ownsRow B 38 3 p k ps → (p.ownBlock = y.ownBlock → k ≤ n) → w'.ownsRow B 38 3 p k ps) : Ap w0 B bH bM K cH cM H (M.set k [(v, xs), (y', ys')]) w' := by
  have hc : [(v, xs), (y, ys)] ∈ M := List.mem_iff_getElem?.2 ⟨k, hk⟩
  obtain ⟨m, hv⟩ := h.cM.own _ hc (v, xs) (by simp)
  have hmn : m ≤ n := by have a : xs.length = m * 3 := hv.1; have b := hown.1; omega
  refine h.turnM hk (v := y) (xs := ys) (by simp) hown hg (fun p hp => ?_) (fun p hp => ?_) rfl
  · rcases List.mem_cons.1 hp with rfl | hp
    · exact ⟨m, hkeep _ _ _ hv fun _ => hmn⟩
    · obtain rfl := List.mem_singleton.1 hp
      exact ⟨n', h1⟩
  · rcases List.mem_cons.1 hp with rfl | hp
    · exact .inl ⟨(v, xs), by simp, rfl⟩
    · obtain rfl := List.mem_singleton.1 hp
      rcases hb with e | e
      · exact .inl ⟨(y, ys), by simp, e⟩
      · exact .inr ⟨_, e, Nat.le_refl _⟩
end
-- the first loop: the rows ahead of k bear their marks, of the row k the first i
structure FH (K k i : Nat) (H : List (List (Value × List Value))) : Prop where
  len : H.length = K
  all : ∀ q c, H[q]? = some c → ∃ v, ∃ L : List ByteArray, c = [(v, L.map Value.string)] ∧ L.length ≤ 1000000 ∧ (q < k → ∀ x ∈ L, x = mkK q) ∧ (q = k → ∀ x ∈ L.take i, x = mkK q)
structure FM (K k i : Nat) (M : List (List (Value × List Value))) : Prop where
  len : M.length = K
  all : ∀ q c, M[q]? = some c → ∃ v, ∃ L : List Md, c = [(v, mls L)] ∧ L.length ≤ 1000000 ∧ (q < k → ∀ x ∈ L, x.2 = mkK q) ∧ (q = k → ∀ x ∈ L.take i, x.2 = mkK q)
theorem take_setp {α : Type} {P : α → Prop} {L : List α} {i : Nat} (hi : i < L.length) (h : ∀ x ∈ L.take i, P x) (y : α) (hy : P y) : ∀ x ∈ (L.set i y).take (i + 1), P x := by
  intro x hx
  obtain ⟨j, hj, e⟩ := List.getElem_of_mem hx
  rw [List.length_take, List.length_set] at hj
  rw [List.getElem_take, List.getElem_set] at e
  by_cases q : i = j
  · rw [if_pos q] at e
    rw [← e]
    exact hy
  · rw [if_neg q] at e
    rw [← e]
    exact h _ (List.mem_take_iff_getElem.2 ⟨j, by omega, rfl⟩)
theorem FH.step {K k i : Nat} {H : List (List (Value × List Value))} (h : FH K k i H) {v : Value} {L : List ByteArray} (hk : H[k]? = some [(v, L.map Value.string)]) (hi : i < L.length) : FH K k (i + 1) (H.set k [(v, (L.map Value.string).set i (.string (mkK k)))]) := by
  refine ⟨by rw [List.length_set]; exact h.len, fun q c hq => ?_⟩
  by_cases e : q = k
  · subst e
    rw [List.getElem?_set_self (List.getElem?_eq_some_iff.1 hk).1] at hq
    obtain rfl := Option.some.inj hq
    obtain ⟨v', L', e', h1, h2, h3⟩ := h.all q _ hk
    have e2 : L.map Value.string = L'.map Value.string := (Prod.mk.inj (List.cons.inj e').1).2
    have e3 : L = L' := by
      have inj : Function.Injective Value.string := fun a b h => by injection h
      exact (List.map_inj_right (fun a b h => inj h)).1 e2
    subst e3
    exact ⟨v, L.set i (mkK q), by rw [List.map_set], by rw [List.length_set]; exact h1, fun h => absurd h (by omega), fun _ => take_setp hi (h3 rfl) _ rfl⟩
  · rw [List.getElem?_set_ne (Ne.symm e)] at hq
    obtain ⟨v', L', e', h1, h2, h3⟩ := h.all q c hq
    exact ⟨v', L', e', h1, h2, fun h => absurd h e⟩
theorem mls_inj : ∀ L L' : List Md, mls L = mls L' → L.map (·.2) = L'.map (·.2)
  | [], [], _ => rfl
  | [], b :: L', h => by cases h
  | a :: L, [], h => by cases h
  | a :: L, b :: L', h => by
    have e : ∀ L : List Md, ∀ b, mls (b :: L) = .int .i64 (b.1.1 : Nat) :: .int .i64 (b.1.2 : Nat) :: .string b.2 :: mls L := fun _ _ => rfl
    rw [e, e] at h
    injection h with _ h
    injection h with _ h
    injection h with h1 h2
    injection h1 with h1
    rw [List.map_cons, List.map_cons, mls_inj L L' h2, h1]
theorem FM.step {K k i : Nat} {M : List (List (Value × List Value))} (h : FM K k i M) {v : Value} {L : List Md} (hk : M[k]? = some [(v, mls L)]) (hi : i < L.length) (a : Nat × Nat) : FM K k (i + 1) (M.set k [(v, mls (L.set i (a, mkK k)))]) := by
  refine ⟨by rw [List.length_set]; exact h.len, fun q c hq => ?_⟩
  by_cases e : q = k
  · subst e
    rw [List.getElem?_set_self (List.getElem?_eq_some_iff.1 hk).1] at hq
    obtain rfl := Option.some.inj hq
    obtain ⟨v', L', e', h1, h2, h3⟩ := h.all q _ hk
    have e2 : L.map (·.2) = L'.map (·.2) := mls_inj _ _ (Prod.mk.inj (List.cons.inj e').1).2
    have e3 : L.length = L'.length := by have := congrArg List.length e2; simpa using this
    have h4 : ∀ x ∈ L.take i, x.2 = mkK q := fun x hx => by
      have : x.2 ∈ (L.take i).map (·.2) := List.mem_map.2 ⟨x, hx, rfl⟩
      rw [List.map_take, e2, ← List.map_take] at this
      obtain ⟨y, hy, e⟩ := List.mem_map.1 this
      rw [← e]
      exact h3 rfl y hy
    exact ⟨v, L.set i (a, mkK q), rfl, by rw [List.length_set, e3]; exact h1, fun h => absurd h (by omega), fun _ => take_setp hi h4 _ rfl⟩
  · rw [List.getElem?_set_ne (Ne.symm e)] at hq
    obtain ⟨v', L', e', h1, h2, h3⟩ := h.all q c hq
    exact ⟨v', L', e', h1, h2, fun h => absurd h e⟩
theorem FH.next {K k i : Nat} {H : List (List (Value × List Value))} (h : FH K k i H) {v : Value} {L : List ByteArray} (hk : H[k]? = some [(v, L.map Value.string)]) (hi : L.length ≤ i) : FH K (k + 1) 0 H := by
  refine ⟨h.len, fun q c hq => ?_⟩
  obtain ⟨v', L', e', h1, h2, h3⟩ := h.all q c hq
  refine ⟨v', L', e', h1, fun hlt => ?_, fun _ x hx => by simp at hx⟩
  by_cases e : q = k
  · subst e
    rw [hk] at hq
    obtain rfl := Option.some.inj hq
    have e2 : L.map Value.string = L'.map Value.string := (Prod.mk.inj (List.cons.inj e').1).2
    have e3 : L.length = L'.length := by have := congrArg List.length e2; simpa using this
    have := h3 rfl
    rw [List.take_of_length_le (by omega)] at this
    exact this
  · exact h2 (by omega)
theorem FM.next {K k i : Nat} {M : List (List (Value × List Value))} (h : FM K k i M) {v : Value} {L : List Md} (hk : M[k]? = some [(v, mls L)]) (hi : L.length ≤ i) : FM K (k + 1) 0 M := by
  refine ⟨h.len, fun q c hq => ?_⟩
  obtain ⟨v', L', e', h1, h2, h3⟩ := h.all q c hq
  refine ⟨v', L', e', h1, fun hlt => ?_, fun _ x hx => by simp at hx⟩
  by_cases e : q = k
  · subst e
    rw [hk] at hq
    obtain rfl := Option.some.inj hq
    have e2 : mls L = mls L' := (Prod.mk.inj (List.cons.inj e').1).2
    have e3 : L.length = L'.length := by have := congrArg List.length e2; rw [mls_len, mls_len] at this; omega
    have := h3 rfl
    rw [List.take_of_length_le (by omega)] at this
    exact this
  · exact h2 (by omega)
end Go.Proofs.YtmmbkfagchaocaaDoor.s4

namespace Go.Proofs.YtmmbkfagchaocaaDoor.s5
open Go.RowKit Go.PlainAid
open Go.Proofs.YtmmbkfagchaocaaDoor.cp Go.Proofs.YtmmbkfagchaocaaDoor.ka Go.Proofs.YtmmbkfagchaocaaDoor.na Go.Proofs.YtmmbkfagchaocaaDoor.oa Go.Proofs.YtmmbkfagchaocaaDoor.ob Go.Proofs.YtmmbkfagchaocaaDoor.s1 Go.Proofs.YtmmbkfagchaocaaDoor.s2 Go.Proofs.YtmmbkfagchaocaaDoor.s3 Go.Proofs.YtmmbkfagchaocaaDoor.s4
set_option linter.unusedVariables false

-- the second loop: the rows ahead of k have a longer one beside them
structure GH (K k : Nat) (H : List (List (Value × List Value))) (Y : List Value) : Prop where
  len : H.length = K
  ylen : Y.length = k
  old : ∀ q c, H[q]? = some c → k ≤ q → ∃ v, ∃ L : List ByteArray, c = [(v, L.map Value.string)] ∧ L.length ≤ 1000000 ∧ ∀ x ∈ L, x = mkK q
  new : ∀ q c, H[q]? = some c → q < k → ∃ v y, ∃ L L' : List ByteArray, c = [(v, L.map Value.string), (y, L'.map Value.string)] ∧ Y[q]? = some y ∧ L.length ≤ 1000000 ∧ L'.length ≤ 1000064 ∧ (∀ x ∈ L, x = mkK q) ∧ ∀ x ∈ L', x = mkK q
structure GM (K k : Nat) (M : List (List (Value × List Value))) (Z : List Value) : Prop where
  len : M.length = K
  ylen : Z.length = k
  old : ∀ q c, M[q]? = some c → k ≤ q → ∃ v, ∃ L : List Md, c = [(v, mls L)] ∧ L.length ≤ 1000000 ∧ ∀ x ∈ L, x.2 = mkK q
  new : ∀ q c, M[q]? = some c → q < k → ∃ v y, ∃ L L' : List Md, c = [(v, mls L), (y, mls L')] ∧ Z[q]? = some y ∧ L.length ≤ 1000000 ∧ L'.length ≤ 1000064 ∧ (∀ x ∈ L, x.2 = mkK q) ∧ ∀ x ∈ L', x.2 = mkK q
theorem FH.done {K i : Nat} {H : List (List (Value × List Value))} (h : FH K K i H) : GH K 0 H [] := by
  refine ⟨h.len, rfl, fun q c hq _ => ?_, fun q c hq hl => absurd hl (by omega)⟩
  obtain ⟨v, L, e, h1, h2, _⟩ := h.all q c hq
  exact ⟨v, L, e, h1, h2 (by have := (List.getElem?_eq_some_iff.1 hq).1; have := h.len; omega)⟩
theorem FM.done {K i : Nat} {M : List (List (Value × List Value))} (h : FM K K i M) : GM K 0 M [] := by
  refine ⟨h.len, rfl, fun q c hq _ => ?_, fun q c hq hl => absurd hl (by omega)⟩
  obtain ⟨v, L, e, h1, h2, _⟩ := h.all q c hq
  exact ⟨v, L, e, h1, h2 (by have := (List.getElem?_eq_some_iff.1 hq).1; have := h.len; omega)⟩
theorem mem_rep {α : Type} {P : α → Prop} {L : List α} (h : ∀ x ∈ L, P x) {n : Nat} {y : α} (hy : P y) : ∀ x ∈ L ++ List.replicate n y, P x := fun x hx => by
  rcases List.mem_append.1 hx with a | a
  · exact h x a
  · rw [(List.mem_replicate.1 a).2]
    exact hy
theorem GH.next {K k : Nat} {H : List (List (Value × List Value))} {Y : List Value} (h : GH K k H Y) {v y : Value} {L : List ByteArray} (hk : H[k]? = some [(v, L.map Value.string)]) (hz : L.length ≤ 1000000) (hm : ∀ x ∈ L, x = mkK k) : GH K (k + 1) (H.set k [(v, L.map Value.string), (y, (L ++ List.replicate 64 (mkK k)).map Value.string)]) (Y ++ [y]) := by
  have hl := (List.getElem?_eq_some_iff.1 hk).1
  refine ⟨by rw [List.length_set]; exact h.len, by rw [List.length_append, h.ylen]; rfl, fun q c hq hle => ?_, fun q c hq hlt => ?_⟩
  · rw [List.getElem?_set_ne (by omega)] at hq
    exact h.old q c hq (by omega)
  · by_cases e : q = k
    · subst e
      rw [List.getElem?_set_self hl] at hq
      obtain rfl := Option.some.inj hq
      refine ⟨v, y, L, _, rfl, ?_, hz, ?_, hm, mem_rep hm rfl⟩
      · rw [List.getElem?_append_right (by rw [h.ylen]; exact Nat.le_refl _), h.ylen, Nat.sub_self]
        rfl
      · rw [List.length_append, List.length_replicate]
        omega
    · rw [List.getElem?_set_ne (Ne.symm e)] at hq
      obtain ⟨v', y', L1, L2, e1, e2, r⟩ := h.new q c hq (by omega)
      exact ⟨v', y', L1, L2, e1, by rw [List.getElem?_append_left (List.getElem?_eq_some_iff.1 e2).1]; exact e2, r⟩
theorem GM.next {K k : Nat} {M : List (List (Value × List Value))} {Z : List Value} (h : GM K k M Z) {v y : Value} {L : List Md} (hk : M[k]? = some [(v, mls L)]) (hz : L.length ≤ 1000000) (hm : ∀ x ∈ L, x.2 = mkK k) (a : Nat × Nat) : GM K (k + 1) (M.set k [(v, mls L), (y, mls (L ++ List.replicate 64 (a, mkK k)))]) (Z ++ [y]) := by
  have hl := (List.getElem?_eq_some_iff.1 hk).1
  refine ⟨by rw [List.length_set]; exact h.len, by rw [List.length_append, h.ylen]; rfl, fun q c hq hle => ?_, fun q c hq hlt => ?_⟩
  · rw [List.getElem?_set_ne (by omega)] at hq
    exact h.old q c hq (by omega)
  · by_cases e : q = k
    · subst e
      rw [List.getElem?_set_self hl] at hq
      obtain rfl := Option.some.inj hq
      refine ⟨v, y, L, _, rfl, ?_, hz, ?_, hm, mem_rep hm rfl⟩
      · rw [List.getElem?_append_right (by rw [h.ylen]; exact Nat.le_refl _), h.ylen, Nat.sub_self]
        rfl
      · rw [List.length_append, List.length_replicate]
        omega
    · rw [List.getElem?_set_ne (Ne.symm e)] at hq
      obtain ⟨v', y', L1, L2, e1, e2, r⟩ := h.new q c hq (by omega)
      exact ⟨v', y', L1, L2, e1, by rw [List.getElem?_append_left (List.getElem?_eq_some_iff.1 e2).1]; exact e2, r⟩
-- one append of the second loop
section
variable {w0 w w' : World} {B bH bM K cH cM : Nat} {H M : List (List (Value × List Value))}
theorem growH {k i n' : Nat} {v y y' : Value} {L : List ByteArray} {x : ByteArray} (hk : k < H.length) (h : Ap w0 B bH bM K cH cM (H.set k [(v, L.map Value.string), (y, (L ++ List.replicate i x).map Value.string)]) M w) {n : Nat} (hown : w.ownsRow B 9 1 y n ((L ++ List.replicate i x).map Value.string)) (h1 : w'.ownsRow B 9 1 y' n' ((L ++ List.replicate i x).map Value.string ++ [.string x])) (hg : w.grownBy w' y.ownBlock) (hb : y'.ownBlock = y.ownBlock ∨ y'.ownBlock = some w.heap.size) (hkeep : ∀ p k ps, w.ownsRow B 9 1 p k ps → (p.ownBlock = y.ownBlock → k ≤ n) → w'.ownsRow B 9 1 p k ps) : Ap w0 B bH bM K cH cM (H.set k [(v, L.map Value.string), (y', (L ++ List.replicate (i + 1) x).map Value.string)]) M w' := by
  have e : (L ++ List.replicate (i + 1) x).map Value.string = (L ++ List.replicate i x).map Value.string ++ [.string x] := by rw [List.replicate_succ', ← List.append_assoc, List.map_append (l₂ := [x])]; rfl
  have a := Ap.pushH h (List.getElem?_set_self hk) (by rw [List.length_map, List.length_map, List.length_append]; omega) hown h1 hg hb hkeep
  rw [List.set_set] at a
  rw [e]
  exact a
theorem growM {k i n' : Nat} {v y y' : Value} {L : List Md} {x : Md} (hk : k < M.length) (h : Ap w0 B bH bM K cH cM H (M.set k [(v, mls L), (y, mls (L ++ List.replicate i x))]) w) {n : Nat} (hown : w.ownsRow B 38 3 y n (mls (L ++ List.replicate i x))) (h1 : w'.ownsRow B 38 3 y' n' (mls (L ++ List.replicate i x) ++ ml x)) (hg : w.grownBy w' y.ownBlock) (hb : y'.ownBlock = y.ownBlock ∨ y'.ownBlock = some w.heap.size) (hkeep : ∀ p k ps, w.ownsRow B 38 3 p k ps → (p.ownBlock = y.ownBlock → k ≤ n) → w'.ownsRow B 38 3 p k ps) : Ap w0 B bH bM K cH cM H (M.set k [(v, mls L), (y', mls (L ++ List.replicate (i + 1) x))]) w' := by
  have e : mls (L ++ List.replicate (i + 1) x) = mls (L ++ List.replicate i x) ++ ml x := by rw [List.replicate_succ', ← List.append_assoc, mls_app (L ++ List.replicate i x) [x], mls_one]
  have a := Ap.pushM h (List.getElem?_set_self hk) (by rw [mls_len, mls_len, List.length_append]; omega) hown h1 hg hb hkeep
  rw [List.set_set] at a
  rw [e]
  exact a
-- a row of another kind, younger than the two lists, grows
theorem Ap.beside (h : Ap w0 B bH bM K cH cM H M w) {B2 t sz n : Nat} {u : Value} {us : List Value} (ho : w.ownsRow B2 t sz u n us) (hg : w.grownBy w' u.ownBlock) (h1 : 9 ≠ t) (h2 : 38 ≠ t) (b1 : bH < B2) (b2 : bM < B2) (b3 : w0.heap.size ≤ B2) : Ap w0 B bH bM K cH cM H M w' := by
  have lt := fun g e => (ho.lt g e).1
  refine ⟨h.rH.kept hg (.inr fun e => ?_), h.rM.kept hg (.inr fun e => ?_), ⟨fun c hc p hp => ?_, h.cH.apart⟩, ⟨fun c hc p hp => ?_, h.cM.apart⟩, grown_fr h.fr hg (fun g e => Nat.le_trans b3 (lt g e)), h.hB⟩
  · have := lt bH e.symm
    omega
  · have := lt bM e.symm
    omega
  · obtain ⟨m, hm⟩ := h.cH.own c hc p hp
    exact ⟨m, hm.kept hg (own_apart hm ho h1)⟩
  · obtain ⟨m, hm⟩ := h.cM.own c hc p hp
    exact ⟨m, hm.kept hg (own_apart hm ho h2)⟩
-- what the lists name, and what is read of it
theorem Ap.nameH (h : Ap w0 B bH bM K cH cM H M w) {k : Nat} {v : Value} {xs : List Value} {r : List (Value × List Value)} (hk : H[k]? = some ((v, xs) :: r)) : w.cell? ⟨bH, k, none⟩ = some v := by
  have e : (fsts H)[k]? = some v := by unfold fsts; rw [List.getElem?_map, hk]; rfl
  have hl := (List.getElem?_eq_some_iff.1 e).1
  have h1 := h.rH.1
  rw [World.ownsRow.cellAt h.rH k (by omega)]
  exact e
theorem Ap.nameM (h : Ap w0 B bH bM K cH cM H M w) {k : Nat} {v : Value} {xs : List Value} {r : List (Value × List Value)} (hk : M[k]? = some ((v, xs) :: r)) : w.cell? ⟨bM, k, none⟩ = some v := by
  have e : (fsts M)[k]? = some v := by unfold fsts; rw [List.getElem?_map, hk]; rfl
  have hl := (List.getElem?_eq_some_iff.1 e).1
  have h1 := h.rM.1
  rw [World.ownsRow.cellAt h.rM k (by omega)]
  exact e
theorem Ap.readH (h : Ap w0 B bH bM K cH cM H M w) {k : Nat} {c : List (Value × List Value)} {v : Value} {L : List ByteArray} (hk : H[k]? = some c) (hv : (v, L.map Value.string) ∈ c) : ReadsT w v L := by
  obtain ⟨m, hm⟩ := h.cH.own c (List.mem_iff_getElem?.2 ⟨k, hk⟩) _ hv
  exact own_readsT hm
theorem Ap.readM (h : Ap w0 B bH bM K cH cM H M w) {k : Nat} {c : List (Value × List Value)} {v : Value} {L : List Md} (hk : M[k]? = some c) (hv : (v, mls L) ∈ c) : ReadsM w v L := by
  obtain ⟨m, hm⟩ := h.cM.own c (List.mem_iff_getElem?.2 ⟨k, hk⟩) _ hv
  exact own_readsM hm
end
end Go.Proofs.YtmmbkfagchaocaaDoor.s5

namespace Go.Proofs.YtmmbkfagchaocaaDoor.s6
open Go.RowKit Go.PlainAid
open Go.Proofs.YtmmbkfagchaocaaDoor.pl Go.Proofs.YtmmbkfagchaocaaDoor.pg Go.Proofs.YtmmbkfagchaocaaDoor.cp Go.Proofs.YtmmbkfagchaocaaDoor.ka Go.Proofs.YtmmbkfagchaocaaDoor.na Go.Proofs.YtmmbkfagchaocaaDoor.oa Go.Proofs.YtmmbkfagchaocaaDoor.ob Go.Proofs.YtmmbkfagchaocaaDoor.s1 Go.Proofs.YtmmbkfagchaocaaDoor.s2 Go.Proofs.YtmmbkfagchaocaaDoor.s3 Go.Proofs.YtmmbkfagchaocaaDoor.s4 Go.Proofs.YtmmbkfagchaocaaDoor.s5
set_option linter.unusedVariables false

theorem convK (W : World) (k c : Nat) (hc : 97 + k = c) (hk : k ≤ 9) : (convert 60 9 (.slice (some ⟨W.heap.size, 0, none⟩) 1 1)).run Tryd.prog (W.alloc (.cells #[.int .u8 (c : Int)] 5)) = .ok (.string (mkA k)) (W.alloc (.cells #[.int .u8 (c : Int)] 5)) := by
  subst hc
  have hcv := own_conv (W.alloc (.cells #[.int .u8 ((97 + k : Nat) : Int)] 5)) W.heap.size (.slice (some ⟨W.heap.size, 0, none⟩) 1 1) [((97 + k : Nat) : Int)] 1 rfl (by omega) (World.ownsRow_lit W #[.int .u8 ((97 + k : Nat) : Int)] 1 (Nat.le_refl _) (by unfold maxLen; omega) rfl)
  rw [mark_str k hk] at hcv
  exact hcv
section
variable {w0 w w' : World} {B bH bM K cH cM : Nat} {H M : List (List (Value × List Value))}
theorem own_n {w : World} {B t sz m n cc : Nat} {a : Option Addr} {xs : List Value} (h : w.ownsRow B t sz (.slice a n cc) m xs) : m = n := by
  rcases h.2 with ⟨e, e2⟩ | ⟨g1, cap, cur, e, _⟩
  · rw [(Value.slice.inj e).2.1]; exact e2
  · exact (Value.slice.inj e).2.1.symm
theorem slotH (h : Ap w0 B bH bM K cH cM H M w) {k n cc i : Nat} {a : Option Addr} {xs : List Value} (hk : H[k]? = some [(.slice a n cc, xs)]) (hi : i < n) : ∃ g, a = some ⟨g, 0, none⟩ ∧ (∃ u, w.cell? ⟨g, i, none⟩ = some u) ∧ w.frozen? ⟨g, i, none⟩ = false := by
  obtain ⟨m, hown⟩ := h.cH.own _ (List.mem_iff_getElem?.2 ⟨k, hk⟩) _ (List.mem_singleton.2 rfl)
  obtain rfl := own_n hown
  obtain ⟨g, rfl⟩ : ∃ g, a = some ⟨g, 0, none⟩ := by
    rcases hown.2 with ⟨e, e2⟩ | ⟨g, cap, cur, e, _⟩
    · omega
    · exact ⟨g, (Value.slice.inj e).1⟩
  have hl : xs.length = m * 1 := hown.1
  exact ⟨g, rfl, ⟨xs[i]'(by omega), by rw [World.ownsRow.cellAt hown i (by omega)]; exact List.getElem?_eq_getElem _⟩, World.ownsRow.frozenAt hown i⟩
theorem slotM (h : Ap w0 B bH bM K cH cM H M w) {k n cc i : Nat} {a : Option Addr} {xs : List Value} (hk : M[k]? = some [(.slice a n cc, xs)]) (hi : i < n) : ∃ g, a = some ⟨g, 0, none⟩ ∧ ((∃ u, w.cell? ⟨g, i * 3, none⟩ = some u) ∧ w.frozen? ⟨g, i * 3, none⟩ = false) ∧ ((∃ u, w.cell? ⟨g, i * 3 + 1, none⟩ = some u) ∧ w.frozen? ⟨g, i * 3 + 1, none⟩ = false) ∧ ((∃ u, w.cell? ⟨g, i * 3 + 2, none⟩ = some u) ∧ w.frozen? ⟨g, i * 3 + 2, none⟩ = false) := by
  obtain ⟨m, hown⟩ := h.cM.own _ (List.mem_iff_getElem?.2 ⟨k, hk⟩) _ (List.mem_singleton.2 rfl)
  obtain rfl := own_n hown
  obtain ⟨g, rfl⟩ : ∃ g, a = some ⟨g, 0, none⟩ := by
    rcases hown.2 with ⟨e, e2⟩ | ⟨g, cap, cur, e, _⟩
    · omega
    · exact ⟨g, (Value.slice.inj e).1⟩
  have hl : xs.length = m * 3 := hown.1
  have f : ∀ j, j < m * 3 → (∃ u, w.cell? ⟨g, j, none⟩ = some u) ∧ w.frozen? ⟨g, j, none⟩ = false := fun j hj => ⟨⟨xs[j]'(by omega), by rw [World.ownsRow.cellAt hown j hj]; exact List.getElem?_eq_getElem _⟩, World.ownsRow.frozenAt hown j⟩
  exact ⟨g, rfl, f _ (by omega), f _ (by omega), f _ (by omega)⟩
theorem formH (h : Ap w0 B bH bM K cH cM H M w) {k0 i0 : Nat} (f : FH K k0 i0 H) {k : Nat} (hk : k < K) : ∃ a cc, ∃ L : List ByteArray, H[k]? = some [(.slice a L.length cc, L.map Value.string)] ∧ L.length ≤ 1000000 := by
  obtain ⟨c, hc⟩ : ∃ c, H[k]? = some c := ⟨_, List.getElem?_eq_getElem (by rw [f.len]; exact hk)⟩
  obtain ⟨v, L, rfl, hz, _⟩ := f.all k c hc
  obtain ⟨m, hown⟩ := h.cH.own _ (List.mem_iff_getElem?.2 ⟨k, hc⟩) _ (List.mem_singleton.2 rfl)
  obtain ⟨a, cc, e⟩ := own_formS hown
  have e' : v = .slice a m cc := e
  have hl : (L.map Value.string).length = m * 1 := hown.1
  rw [List.length_map, Nat.mul_one] at hl
  subst hl
  subst e'
  exact ⟨a, cc, L, hc, hz⟩
theorem formM (h : Ap w0 B bH bM K cH cM H M w) {k0 i0 : Nat} (f : FM K k0 i0 M) {k : Nat} (hk : k < K) : ∃ a cc, ∃ L : List Md, M[k]? = some [(.slice a L.length cc, mls L)] ∧ L.length ≤ 1000000 := by
  obtain ⟨c, hc⟩ : ∃ c, M[k]? = some c := ⟨_, List.getElem?_eq_getElem (by rw [f.len]; exact hk)⟩
  obtain ⟨v, L, rfl, hz, _⟩ := f.all k c hc
  obtain ⟨m, hown⟩ := h.cM.own _ (List.mem_iff_getElem?.2 ⟨k, hc⟩) _ (List.mem_singleton.2 rfl)
  obtain ⟨a, cc, e⟩ := own_formS hown
  have e' : v = .slice a m cc := e
  have hl : (mls L).length = m * 3 := hown.1
  rw [mls_len] at hl
  have hl : L.length = m := by omega
  subst hl
  subst e'
  exact ⟨a, cc, L, hc, hz⟩
end
end Go.Proofs.YtmmbkfagchaocaaDoor.s6

namespace Go.Proofs.YtmmbkfagchaocaaDoor.s8
open Go.RowKit Go.PlainAid
open Go.Proofs.YtmmbkfagchaocaaDoor.pl Go.Proofs.YtmmbkfagchaocaaDoor.pg Go.Proofs.YtmmbkfagchaocaaDoor.cp Go.Proofs.YtmmbkfagchaocaaDoor.ka Go.Proofs.YtmmbkfagchaocaaDoor.na Go.Proofs.YtmmbkfagchaocaaDoor.oa Go.Proofs.YtmmbkfagchaocaaDoor.ob Go.Proofs.YtmmbkfagchaocaaDoor.s1 Go.Proofs.YtmmbkfagchaocaaDoor.s2 Go.Proofs.YtmmbkfagchaocaaDoor.s3 Go.Proofs.YtmmbkfagchaocaaDoor.s4 Go.Proofs.YtmmbkfagchaocaaDoor.s5 Go.Proofs.YtmmbkfagchaocaaDoor.s6
set_option linter.unusedVariables false

theorem hiSS : (Tryd.prog.info? 22).map (fun i => (i.zero, i.size, i.bytes)) = some (some (.slice none 0 0), 1, 24) := by kernel_rfl
theorem hiMM : (Tryd.prog.info? 25).map (fun i => (i.zero, i.size, i.bytes)) = some (some (.slice none 0 0), 1, 24) := by kernel_rfl
theorem und1 : Tryd.prog.underlying 56 = some (.slice 22) := Tryd.underlying56
theorem und2 : Tryd.prog.underlying 77 = some (.slice 25) := Tryd.underlying77
-- the two lists of the longer ones
structure Ro (B2 : Nat) (mv lv : Value) (k : Nat) (Y Z : List Value) (w : World) : Prop where
  a : w.ownsRow B2 22 1 mv k Y
  b : w.ownsRow B2 25 1 lv k Z
  s : B2 ≤ w.heap.size
section
variable {w0 w w' : World} {B B2 bH bM K cH cM k : Nat} {H M : List (List (Value × List Value))} {mv lv : Value} {Y Z : List Value}
theorem Ro.later (h : Ro B2 mv lv k Y Z w) (b : Below w.heap.size w w') : Ro B2 mv lv k Y Z w' := ⟨own_later h.a b, own_later h.b b, Nat.le_trans h.s b.size⟩
theorem Ro.kept (h : Ro B2 mv lv k Y Z w) {t sz n : Nat} {u : Value} {us : List Value} (ho : w.ownsRow B t sz u n us) (hg : w.grownBy w' u.ownBlock) (h1 : 22 ≠ t) (h2 : 25 ≠ t) : Ro B2 mv lv k Y Z w' := ⟨h.a.kept hg (own_apart h.a ho h1), h.b.kept hg (own_apart h.b ho h2), Nat.le_trans h.s hg.size⟩
theorem low (h : Ap w0 B bH bM K cH cM H M w) : B ≤ w.heap.size := by
  have := h.rH.lt bH rfl
  omega
theorem formGH (h : Ap w0 B bH bM K cH cM H M w) (f : GH K k H Y) (hk : k < K) : ∃ a cc, ∃ L : List ByteArray, H[k]? = some [(.slice a L.length cc, L.map Value.string)] ∧ L.length ≤ 1000000 ∧ ∀ x ∈ L, x = mkK k := by
  obtain ⟨c, hc⟩ : ∃ c, H[k]? = some c := ⟨_, List.getElem?_eq_getElem (by rw [f.len]; exact hk)⟩
  obtain ⟨v, L, rfl, hz, hm⟩ := f.old k c hc (Nat.le_refl _)
  obtain ⟨m, hown⟩ := h.cH.own _ (List.mem_iff_getElem?.2 ⟨k, hc⟩) _ (List.mem_singleton.2 rfl)
  obtain ⟨a, cc, e⟩ := own_formS hown
  have e' : v = .slice a m cc := e
  have hl : (L.map Value.string).length = m * 1 := hown.1
  rw [List.length_map, Nat.mul_one] at hl
  subst hl
  subst e'
  exact ⟨a, cc, L, hc, hz, hm⟩
theorem formGM (h : Ap w0 B bH bM K cH cM H M w) (f : GM K k M Z) (hk : k < K) : ∃ a cc, ∃ L : List Md, M[k]? = some [(.slice a L.length cc, mls L)] ∧ L.length ≤ 1000000 ∧ ∀ x ∈ L, x.2 = mkK k := by
  obtain ⟨c, hc⟩ : ∃ c, M[k]? = some c := ⟨_, List.getElem?_eq_getElem (by rw [f.len]; exact hk)⟩
  obtain ⟨v, L, rfl, hz, hm⟩ := f.old k c hc (Nat.le_refl _)
  obtain ⟨m, hown⟩ := h.cM.own _ (List.mem_iff_getElem?.2 ⟨k, hc⟩) _ (List.mem_singleton.2 rfl)
  obtain ⟨a, cc, e⟩ := own_formS hown
  have e' : v = .slice a m cc := e
  have hl : (mls L).length = m * 3 := hown.1
  rw [mls_len] at hl
  have hl : L.length = m := by omega
  subst hl
  subst e'
  exact ⟨a, cc, L, hc, hz, hm⟩
-- the row that is being made longer
theorem rowH {v y : Value} {L0 : List Value} {L : List ByteArray} {i : Nat} {x : ByteArray} (h : Ap w0 B bH bM K cH cM (H.set k [(v, L0), (y, (L ++ List.replicate i x).map Value.string)]) M w) (hk : k < H.length) : w.ownsRow B 9 1 y (L.length + i) ((L ++ List.replicate i x).map Value.string) := by
  obtain ⟨m, hown⟩ := h.cH.own _ (List.mem_iff_getElem?.2 ⟨k, List.getElem?_set_self hk⟩) (y, (L ++ List.replicate i x).map Value.string) (by simp)
  have hl : ((L ++ List.replicate i x).map Value.string).length = m * 1 := hown.1
  rw [List.length_map, List.length_append, List.length_replicate, Nat.mul_one] at hl
  subst hl
  exact hown
theorem rowM {v y : Value} {L0 : List Value} {L : List Md} {i : Nat} {x : Md} (h : Ap w0 B bH bM K cH cM H (M.set k [(v, L0), (y, mls (L ++ List.replicate i x))]) w) (hk : k < M.length) : w.ownsRow B 38 3 y (L.length + i) (mls (L ++ List.replicate i x)) := by
  obtain ⟨m, hown⟩ := h.cM.own _ (List.mem_iff_getElem?.2 ⟨k, List.getElem?_set_self hk⟩) (y, mls (L ++ List.replicate i x)) (by simp)
  have hl : (mls (L ++ List.replicate i x)).length = m * 3 := hown.1
  rw [mls_len, List.length_append, List.length_replicate] at hl
  have hl : L.length + i = m := by omega
  subst hl
  exact hown
end
theorem new1 (w : World) (u : Value) (t : Nat) : ∀ j z, [u][j]? = some z → (w.alloc (.cells #[u] t)).cell? ((⟨w.heap.size, 0, none⟩ : Addr).add j) = some z := by
  intro j z h
  cases j with
  | zero =>
    obtain rfl : u = z := by simpa using h
    rw [show (⟨w.heap.size, 0, none⟩ : Addr).add 0 = ⟨w.heap.size, 0, none⟩ from rfl, World.cell?_alloc_at _ _ _ _ rfl]
    rfl
  | succ j => simp at h
theorem new3 (w : World) (x : Md) (t : Nat) : ∀ j z, (ml x)[j]? = some z → (w.alloc (.cells #[.int .i64 (x.1.1 : Nat), .int .i64 (x.1.2 : Nat), .string x.2] t)).cell? ((⟨w.heap.size, 0, none⟩ : Addr).add j) = some z := by
  intro j z h
  rw [show (⟨w.heap.size, 0, none⟩ : Addr).add j = ⟨w.heap.size, j, none⟩ from by rw [Addr.add_mid, Nat.zero_add], World.cell?_alloc_at _ _ _ _ rfl, ← Array.getElem?_toList]
  exact h
end Go.Proofs.YtmmbkfagchaocaaDoor.s8

namespace Go.Proofs.YtmmbkfagchaocaaDoor.s9
open Go.RowKit Go.PlainAid
open Go.Proofs.YtmmbkfagchaocaaDoor.cp Go.Proofs.YtmmbkfagchaocaaDoor.ka Go.Proofs.YtmmbkfagchaocaaDoor.na Go.Proofs.YtmmbkfagchaocaaDoor.oa Go.Proofs.YtmmbkfagchaocaaDoor.ob Go.Proofs.YtmmbkfagchaocaaDoor.s1 Go.Proofs.YtmmbkfagchaocaaDoor.s2 Go.Proofs.YtmmbkfagchaocaaDoor.s3 Go.Proofs.YtmmbkfagchaocaaDoor.s4 Go.Proofs.YtmmbkfagchaocaaDoor.s5 Go.Proofs.YtmmbkfagchaocaaDoor.s6 Go.Proofs.YtmmbkfagchaocaaDoor.s8
set_option linter.unusedVariables false

-- the answers so far: their rows, and of the two lists the first p, q
structure Ak (w0 : World) (hv mv : Value) (p q K : Nat) (H M : List (List (Value × List Value))) (w : World) : Prop where
  rH : w.ownsRow w0.heap.size 22 1 hv p (fsts (H.take p))
  rM : w.ownsRow w0.heap.size 25 1 mv q (fsts (M.take q))
  cH : Clu w w0.heap.size 9 1 H
  cM : Clu w w0.heap.size 38 3 M
  fr : Below w0.heap.size w0 w
  fH : FH K 0 0 H
  fM : FM K 0 0 M
section
variable {w0 w w' : World} {hv mv : Value} {p q K : Nat} {H M : List (List (Value × List Value))}
theorem Ak.start (w : World) : Ak w (.slice none 0 0) (.slice none 0 0) 0 0 0 [] [] w :=
  ⟨⟨rfl, .inl ⟨rfl, rfl⟩⟩, ⟨rfl, .inl ⟨rfl, rfl⟩⟩, ⟨fun c h => by simp at h, List.Pairwise.nil⟩, ⟨fun c h => by simp at h, List.Pairwise.nil⟩, Below.refl _ _, ⟨rfl, fun q c h => by simp at h⟩, ⟨rfl, fun q c h => by simp at h⟩⟩
theorem Ak.later (h : Ak w0 hv mv p q K H M w) (b : Below w.heap.size w w') : Ak w0 hv mv p q K H M w' := ⟨own_later h.rH b, own_later h.rM b, h.cH.later b, h.cM.later b, over h.fr b, h.fH, h.fM⟩
theorem FH.snoc (h : FH K 0 0 H) {v : Value} {L : List ByteArray} (hz : L.length ≤ 1000000) : FH (K + 1) 0 0 (H ++ [[(v, L.map Value.string)]]) := by
  refine ⟨by rw [List.length_append, h.len]; rfl, fun j c hj => ?_⟩
  by_cases e : j < H.length
  · rw [List.getElem?_append_left e] at hj
    exact h.all j c hj
  · rw [List.getElem?_append_right (by omega)] at hj
    have := List.mem_of_getElem? hj
    obtain rfl : c = [(v, L.map Value.string)] := by simpa using this
    exact ⟨v, L, rfl, hz, fun h => absurd h (by omega), fun _ x hx => by simp at hx⟩
theorem FM.snoc (h : FM K 0 0 M) {v : Value} {L : List Md} (hz : L.length ≤ 1000000) : FM (K + 1) 0 0 (M ++ [[(v, mls L)]]) := by
  refine ⟨by rw [List.length_append, h.len]; rfl, fun j c hj => ?_⟩
  by_cases e : j < M.length
  · rw [List.getElem?_append_left e] at hj
    exact h.all j c hj
  · rw [List.getElem?_append_right (by omega)] at hj
    have := List.mem_of_getElem? hj
    obtain rfl : c = [(v, mls L)] := by simpa using this
    exact ⟨v, L, rfl, hz, fun h => absurd h (by omega), fun _ x hx => by simp at hx⟩
-- one answer more
theorem Ak.add (h : Ak w0 hv mv K K K H M w) (b : Below w.heap.size w w') {v u : Value} {n m : Nat} {L : List ByteArray} {N : List Md} (o1 : w'.ownsRow w.heap.size 9 1 v n (L.map Value.string)) (o2 : w'.ownsRow w.heap.size 38 3 u m (mls N)) (z1 : L.length ≤ 1000000) (z2 : N.length ≤ 1000000) : Ak w0 hv mv K K (K + 1) (H ++ [[(v, L.map Value.string)]]) (M ++ [[(u, mls N)]]) w' := by
  have e1 : (H ++ [[(v, L.map Value.string)]]).take K = H.take K := by rw [List.take_append_of_le_length (by rw [h.fH.len]; exact Nat.le_refl _)]
  have e2 : (M ++ [[(u, mls N)]]).take K = M.take K := by rw [List.take_append_of_le_length (by rw [h.fM.len]; exact Nat.le_refl _)]
  exact ⟨by rw [e1]; exact own_later h.rH b, by rw [e2]; exact own_later h.rM b, h.cH.add b o1 h.fr.size, h.cM.add b o2 h.fr.size, over h.fr b, FH.snoc h.fH z1, FM.snoc h.fM z2⟩
theorem fsts_snoc (C : List (List (Value × List Value))) (v : Value) (xs : List Value) : fsts (C ++ [[(v, xs)]]) = fsts C ++ [v] := by
  unfold fsts
  rw [List.map_append]
  rfl
-- it is put behind the list of texts' rows
theorem Ak.linkH {v : Value} {xs : List Value} (h : Ak w0 hv mv K K (K + 1) (H ++ [[(v, xs)]]) M w) {hv' : Value} (ho : w'.ownsRow w0.heap.size 22 1 hv' (K + 1) (fsts ((H ++ [[(v, xs)]]).take K) ++ [v])) (hg : w.grownBy w' hv.ownBlock) : Ak w0 hv' mv (K + 1) K (K + 1) (H ++ [[(v, xs)]]) M w' := by
  have hl : H.length = K := by have := h.fH.len; rw [List.length_append] at this; simpa using this
  have e1 : (H ++ [[(v, xs)]]).take K = H := by rw [List.take_append_of_le_length (by omega), List.take_of_length_le (by omega)]
  have e2 : (H ++ [[(v, xs)]]).take (K + 1) = H ++ [[(v, xs)]] := List.take_of_length_le (by rw [List.length_append, hl]; exact Nat.le_refl _)
  rw [e1] at ho
  refine ⟨by rw [e2, fsts_snoc]; exact ho, h.rM.kept hg (own_apart h.rM h.rH (by decide)), Clu.far h.cH h.rH (by decide) hg, Clu.far h.cM h.rH (by decide) hg, grown_fr h.fr hg (fun g e => (h.rH.lt g e).1), h.fH, h.fM⟩
theorem Ak.linkM {v : Value} {xs : List Value} (h : Ak w0 hv mv (K + 1) K (K + 1) H (M ++ [[(v, xs)]]) w) {mv' : Value} (ho : w'.ownsRow w0.heap.size 25 1 mv' (K + 1) (fsts ((M ++ [[(v, xs)]]).take K) ++ [v])) (hg : w.grownBy w' mv.ownBlock) : Ak w0 hv mv' (K + 1) (K + 1) (K + 1) H (M ++ [[(v, xs)]]) w' := by
  have hl : M.length = K := by have := h.fM.len; rw [List.length_append] at this; simpa using this
  have e1 : (M ++ [[(v, xs)]]).take K = M := by rw [List.take_append_of_le_length (by omega), List.take_of_length_le (by omega)]
  have e2 : (M ++ [[(v, xs)]]).take (K + 1) = M ++ [[(v, xs)]] := List.take_of_length_le (by rw [List.length_append, hl]; exact Nat.le_refl _)
  rw [e1] at ho
  refine ⟨h.rH.kept hg (own_apart h.rH h.rM (by decide)), by rw [e2, fsts_snoc]; exact ho, Clu.far h.cH h.rM (by decide) hg, Clu.far h.cM h.rM (by decide) hg, grown_fr h.fr hg (fun g e => (h.rM.lt g e).1), h.fH, h.fM⟩
-- all is there
theorem Ak.done (h : Ak w0 hv mv K K K H M w) (hK : 0 < K) : ∃ bH bM cH cM, hv = .slice (some ⟨bH, 0, none⟩) K cH ∧ mv = .slice (some ⟨bM, 0, none⟩) K cM ∧ Ap w0 w0.heap.size bH bM K cH cM H M w := by
  have e1 : H.take K = H := List.take_of_length_le (by rw [h.fH.len]; exact Nat.le_refl _)
  have e2 : M.take K = M := List.take_of_length_le (by rw [h.fM.len]; exact Nat.le_refl _)
  have r1 := h.rH
  have r2 := h.rM
  rw [e1] at r1
  rw [e2] at r2
  obtain ⟨bH, cH, rfl⟩ : ∃ b c, hv = .slice (some ⟨b, 0, none⟩) K c := by
    rcases r1.2 with ⟨_, e⟩ | ⟨g, cap, cur, e, _⟩
    · omega
    · exact ⟨g, cap, e⟩
  obtain ⟨bM, cM, rfl⟩ : ∃ b c, mv = .slice (some ⟨b, 0, none⟩) K c := by
    rcases r2.2 with ⟨_, e⟩ | ⟨g, cap, cur, e, _⟩
    · omega
    · exact ⟨g, cap, e⟩
  exact ⟨bH, bM, cH, cM, rfl, rfl, r1, r2, h.cH, h.cM, h.fr, Nat.le_refl _⟩
end
end Go.Proofs.YtmmbkfagchaocaaDoor.s9

namespace Go.Proofs.YtmmbkfagchaocaaDoor.s10
open Go.RowKit Go.PlainAid
open Go.Proofs.YtmmbkfagchaocaaDoor.cp Go.Proofs.YtmmbkfagchaocaaDoor.ka Go.Proofs.YtmmbkfagchaocaaDoor.na Go.Proofs.YtmmbkfagchaocaaDoor.oa Go.Proofs.YtmmbkfagchaocaaDoor.ob Go.Proofs.YtmmbkfagchaocaaDoor.qa Go.Proofs.YtmmbkfagchaocaaDoor.qc Go.Proofs.YtmmbkfagchaocaaDoor.s1 Go.Proofs.YtmmbkfagchaocaaDoor.s2 Go.Proofs.YtmmbkfagchaocaaDoor.s3 Go.Proofs.YtmmbkfagchaocaaDoor.s4 Go.Proofs.YtmmbkfagchaocaaDoor.s5 Go.Proofs.YtmmbkfagchaocaaDoor.s6 Go.Proofs.YtmmbkfagchaocaaDoor.s8 Go.Proofs.YtmmbkfagchaocaaDoor.s9
set_option linter.unusedVariables false

-- a box stands while a row of another kind grows
theorem fx_kept {w w' : World} {b B t sz n : Nat} {lo hi : Int} {u v : Value} {xs : List Value} (h : Fx w b lo hi u) (ho : w.ownsRow B t sz v n xs) (hg : w.grownBy w' v.ownBlock) (hne : t ≠ 24) : Fx w' b lo hi u := by
  refine (hg.block b h.lt fun e => ?_).trans h
  rcases ho.2 with ⟨rfl, _⟩ | ⟨g, cap, cur, rfl, _, hgg, _⟩
  · cases e
  · have e' : b = g := Option.some.inj e
    subst e'
    unfold Fx at h
    rw [hgg] at h
    simp only [Option.some.injEq, Obj.cells.injEq] at h
    exact hne h.2.1
-- the rows of answers in clusters, and boxes beside
structure Aq (w0 : World) (H M : List (List (Value × List Value))) (F : List (Nat × Int × Int × Value)) (w : World) : Prop where
  cH : Clu w w0.heap.size 9 1 H
  cM : Clu w w0.heap.size 38 3 M
  bx : ∀ f ∈ F, Fx w f.1 f.2.1 f.2.2.1 f.2.2.2
  fr : Below w0.heap.size w0 w
section
variable {w0 w w' : World} {H M : List (List (Value × List Value))} {F : List (Nat × Int × Int × Value)}
theorem Aq.start (w : World) : Aq w [] [] [] w := ⟨⟨fun c h => by simp at h, List.Pairwise.nil⟩, ⟨fun c h => by simp at h, List.Pairwise.nil⟩, fun f h => by simp at h, Below.refl _ _⟩
theorem Aq.later (h : Aq w0 H M F w) (b : Below w.heap.size w w') : Aq w0 H M F w' := ⟨h.cH.later b, h.cM.later b, fun f hf => (h.bx f hf).on b, over h.fr b⟩
theorem Aq.box (h : Aq w0 H M F w) (lo hi : Int) (u : Value) : Aq w0 H M (F ++ [(w.heap.size, lo, hi, u)]) (w.alloc (.cells #[.int .i64 lo, .int .i64 hi, u] 24)) := by
  have a := h.later ((Below.refl _ _).alloc (Nat.le_refl _) (.cells #[.int .i64 lo, .int .i64 hi, u] 24))
  refine ⟨a.cH, a.cM, fun f hf => ?_, a.fr⟩
  rcases List.mem_append.1 hf with hf | hf
  · exact a.bx f hf
  · obtain rfl := List.mem_singleton.1 hf
    exact fx_new _ _ _ _
theorem Aq.add (h : Aq w0 H M F w) (b : Below w.heap.size w w') {v u : Value} {L : List ByteArray} {N : List Md} (o1 : Texts w' w.heap.size v L) (o2 : Mades w' w.heap.size u N) : Aq w0 (H ++ [[(v, L.map Value.string)]]) (M ++ [[(u, mls N)]]) F w' :=
  ⟨h.cH.add b o1 h.fr.size, h.cM.add b o2 h.fr.size, fun f hf => (h.bx f hf).on b, over h.fr b⟩
theorem Aq.turnH (h : Aq w0 H M F w) {k n : Nat} {c c' : List (Value × List Value)} {v : Value} {xs : List Value} (hk : H[k]? = some c) (hv : (v, xs) ∈ c) (hown : w.ownsRow w0.heap.size 9 1 v n xs) (hg : w.grownBy w' v.ownBlock) (ho : ∀ p ∈ c', ∃ n, w'.ownsRow w0.heap.size 9 1 p.1 n p.2) (hn : ∀ p ∈ c', (∃ q ∈ c, p.1.ownBlock = q.1.ownBlock) ∨ ∃ g, p.1.ownBlock = some g ∧ w.heap.size ≤ g) : Aq w0 (H.set k c') M F w' :=
  ⟨h.cH.turn hk ⟨_, hv, rfl⟩ hg ho hn, Clu.far h.cM hown (by decide) hg, fun f hf => fx_kept (h.bx f hf) hown hg (by decide), grown_fr h.fr hg (fun g e => (hown.lt g e).1)⟩
theorem Aq.turnM (h : Aq w0 H M F w) {k n : Nat} {c c' : List (Value × List Value)} {v : Value} {xs : List Value} (hk : M[k]? = some c) (hv : (v, xs) ∈ c) (hown : w.ownsRow w0.heap.size 38 3 v n xs) (hg : w.grownBy w' v.ownBlock) (ho : ∀ p ∈ c', ∃ n, w'.ownsRow w0.heap.size 38 3 p.1 n p.2) (hn : ∀ p ∈ c', (∃ q ∈ c, p.1.ownBlock = q.1.ownBlock) ∨ ∃ g, p.1.ownBlock = some g ∧ w.heap.size ≤ g) : Aq w0 H (M.set k c') F w' :=
  ⟨Clu.far h.cH hown (by decide) hg, h.cM.turn hk ⟨_, hv, rfl⟩ hg ho hn, fun f hf => fx_kept (h.bx f hf) hown hg (by decide), grown_fr h.fr hg (fun g e => (hown.lt g e).1)⟩
-- a row of one cluster
theorem Aq.ownH (h : Aq w0 H M F w) {k n cp : Nat} {a : Option Addr} {xs : List Value} {c : List (Value × List Value)} (hk : H[k]? = some c) (hv : (.slice a n cp, xs) ∈ c) : w.ownsRow w0.heap.size 9 1 (.slice a n cp) n xs := by
  obtain ⟨m, hown⟩ := h.cH.own _ (List.mem_iff_getElem?.2 ⟨k, hk⟩) _ hv
  obtain rfl := own_n hown
  exact hown
theorem Aq.ownM (h : Aq w0 H M F w) {k n cp : Nat} {a : Option Addr} {xs : List Value} {c : List (Value × List Value)} (hk : M[k]? = some c) (hv : (.slice a n cp, xs) ∈ c) : w.ownsRow w0.heap.size 38 3 (.slice a n cp) n xs := by
  obtain ⟨m, hown⟩ := h.cM.own _ (List.mem_iff_getElem?.2 ⟨k, hk⟩) _ hv
  obtain rfl := own_n hown
  exact hown
theorem Aq.readH (h : Aq w0 H M F w) {k : Nat} {c : List (Value × List Value)} {v : Value} {L : List ByteArray} (hk : H[k]? = some c) (hv : (v, L.map Value.string) ∈ c) : ReadsT w v L := by
  obtain ⟨m, hm⟩ := h.cH.own c (List.mem_iff_getElem?.2 ⟨k, hk⟩) _ hv
  exact own_readsT hm
theorem Aq.readM (h : Aq w0 H M F w) {k : Nat} {c : List (Value × List Value)} {v : Value} {L : List Md} (hk : M[k]? = some c) (hv : (v, mls L) ∈ c) : ReadsM w v L := by
  obtain ⟨m, hm⟩ := h.cM.own c (List.mem_iff_getElem?.2 ⟨k, hk⟩) _ hv
  exact own_readsM hm
theorem Aq.slotH (h : Aq w0 H M F w) {k n cc i : Nat} {a : Option Addr} {xs : List Value} (hk : H[k]? = some [(.slice a n cc, xs)]) (hi : i < n) : ∃ g, a = some ⟨g, 0, none⟩ ∧ (∃ u, w.cell? ⟨g, i, none⟩ = some u) ∧ w.frozen? ⟨g, i, none⟩ = false := by
  have hown := h.ownH hk (List.mem_singleton.2 rfl)
  obtain ⟨g, rfl⟩ : ∃ g, a = some ⟨g, 0, none⟩ := by
    rcases hown.2 with ⟨e, e2⟩ | ⟨g, cap, cur, e, _⟩
    · omega
    · exact ⟨g, (Value.slice.inj e).1⟩
  have hl : xs.length = n * 1 := hown.1
  exact ⟨g, rfl, ⟨xs[i]'(by omega), by rw [World.ownsRow.cellAt hown i (by omega)]; exact List.getElem?_eq_getElem _⟩, World.ownsRow.frozenAt hown i⟩
theorem Aq.slotM (h : Aq w0 H M F w) {k n cc i : Nat} {a : Option Addr} {xs : List Value} (hk : M[k]? = some [(.slice a n cc, xs)]) (hi : i < n) : ∃ g, a = some ⟨g, 0, none⟩ ∧ ((∃ u, w.cell? ⟨g, i * 3, none⟩ = some u) ∧ w.frozen? ⟨g, i * 3, none⟩ = false) ∧ ((∃ u, w.cell? ⟨g, i * 3 + 1, none⟩ = some u) ∧ w.frozen? ⟨g, i * 3 + 1, none⟩ = false) ∧ ((∃ u, w.cell? ⟨g, i * 3 + 2, none⟩ = some u) ∧ w.frozen? ⟨g, i * 3 + 2, none⟩ = false) := by
  have hown := h.ownM hk (List.mem_singleton.2 rfl)
  obtain ⟨g, rfl⟩ : ∃ g, a = some ⟨g, 0, none⟩ := by
    rcases hown.2 with ⟨e, e2⟩ | ⟨g, cap, cur, e, _⟩
    · omega
    · exact ⟨g, (Value.slice.inj e).1⟩
  have hl : xs.length = n * 3 := hown.1
  have f : ∀ j, j < n * 3 → (∃ u, w.cell? ⟨g, j, none⟩ = some u) ∧ w.frozen? ⟨g, j, none⟩ = false := fun j hj => ⟨⟨xs[j]'(by omega), by rw [World.ownsRow.cellAt hown j hj]; exact List.getElem?_eq_getElem _⟩, World.ownsRow.frozenAt hown j⟩
  exact ⟨g, rfl, f _ (by omega), f _ (by omega), f _ (by omega)⟩
-- a text is written over
theorem Aq.putH (h : Aq w0 H M F w) {k n g cp i : Nat} {L : List ByteArray} (hk : H[k]? = some [(.slice (some ⟨g, 0, none⟩) n cp, L.map Value.string)]) (x : ByteArray) : Aq w0 (H.set k [(.slice (some ⟨g, 0, none⟩) n cp, (L.set i x).map Value.string)]) M F (w.setCell ⟨g, i, none⟩ (.string x)) := by
  have hown := h.ownH hk (List.mem_singleton.2 rfl)
  obtain ⟨h1, h2⟩ := World.ownsRow.stored hown i (.string x)
  rw [← List.map_set] at h1
  exact h.turnH hk (List.mem_singleton.2 rfl) hown h2 (fun p hp => by obtain rfl := List.mem_singleton.1 hp; exact ⟨_, h1⟩) (fun p hp => by obtain rfl := List.mem_singleton.1 hp; exact .inl ⟨_, List.mem_singleton.2 rfl, rfl⟩)
theorem Aq.putM (h : Aq w0 H M F w) {k n g cp : Nat} {xs : List Value} (hk : M[k]? = some [(.slice (some ⟨g, 0, none⟩) n cp, xs)]) (i : Nat) (x : Value) : Aq w0 H (M.set k [(.slice (some ⟨g, 0, none⟩) n cp, xs.set i x)]) F (w.setCell ⟨g, i, none⟩ x) := by
  have hown := h.ownM hk (List.mem_singleton.2 rfl)
  obtain ⟨h1, h2⟩ := World.ownsRow.stored hown i x
  exact h.turnM hk (List.mem_singleton.2 rfl) hown h2 (fun p hp => by obtain rfl := List.mem_singleton.1 hp; exact ⟨_, h1⟩) (fun p hp => by obtain rfl := List.mem_singleton.1 hp; exact .inl ⟨_, List.mem_singleton.2 rfl, rfl⟩)
theorem Aq.putM3 (h : Aq w0 H M F w) {k n g cp i : Nat} {L : List Md} (hk : M[k]? = some [(.slice (some ⟨g, 0, none⟩) n cp, mls L)]) (hi : i < L.length) (x : Md) : Aq w0 H (M.set k [(.slice (some ⟨g, 0, none⟩) n cp, mls (L.set i x))]) F (((w.setCell ⟨g, i * 3, none⟩ (.int .i64 (x.1.1 : Nat))).setCell ⟨g, i * 3 + 1, none⟩ (.int .i64 (x.1.2 : Nat))).setCell ⟨g, i * 3 + 2, none⟩ (.string x.2)) := by
  have hl := (List.getElem?_eq_some_iff.1 hk).1
  have a1 := Aq.putM h hk (i * 3) (.int .i64 (x.1.1 : Nat))
  have a2 := Aq.putM a1 (List.getElem?_set_self hl) (i * 3 + 1) (.int .i64 (x.1.2 : Nat))
  have a3 := Aq.putM a2 (List.getElem?_set_self (by rw [List.length_set]; exact hl)) (i * 3 + 2) (.string x.2)
  rw [List.set_set, List.set_set, mls_set L i hi x] at a3
  exact a3
-- a row is made longer beside itself
theorem Aq.appH (h : Aq w0 H M F w) {k n n' cp : Nat} {a : Option Addr} {v' : Value} {xs ys : List Value} (hk : H[k]? = some [(.slice a n cp, xs)]) (h1 : w'.ownsRow w0.heap.size 9 1 v' n' ys) (hg : w.grownBy w' (Value.slice a n cp).ownBlock) (hb : v'.ownBlock = (Value.slice a n cp).ownBlock ∨ v'.ownBlock = some w.heap.size) (hkeep : ∀ p k ps, w.ownsRow w0.heap.size 9 1 p k ps → (p.ownBlock = (Value.slice a n cp).ownBlock → k ≤ n) → w'.ownsRow w0.heap.size 9 1 p k ps) : Aq w0 (H.set k [(.slice a n cp, xs), (v', ys)]) M F w' := by
  have hown := h.ownH hk (List.mem_singleton.2 rfl)
  refine h.turnH hk (List.mem_singleton.2 rfl) hown hg (fun p hp => ?_) (fun p hp => ?_)
  · rcases List.mem_cons.1 hp with rfl | hp
    · exact ⟨n, hkeep _ _ _ hown fun _ => Nat.le_refl _⟩
    · obtain rfl := List.mem_singleton.1 hp
      exact ⟨n', h1⟩
  · rcases List.mem_cons.1 hp with rfl | hp
    · exact .inl ⟨_, List.mem_singleton.2 rfl, rfl⟩
    · obtain rfl := List.mem_singleton.1 hp
      rcases hb with e | e
      · exact .inl ⟨_, List.mem_singleton.2 rfl, e⟩
      · exact .inr ⟨_, e, Nat.le_refl _⟩
theorem Aq.appM (h : Aq w0 H M F w) {k n n' cp : Nat} {a : Option Addr} {v' : Value} {xs ys : List Value} (hk : M[k]? = some [(.slice a n cp, xs)]) (h1 : w'.ownsRow w0.heap.size 38 3 v' n' ys) (hg : w.grownBy w' (Value.slice a n cp).ownBlock) (hb : v'.ownBlock = (Value.slice a n cp).ownBlock ∨ v'.ownBlock = some w.heap.size) (hkeep : ∀ p k ps, w.ownsRow w0.heap.size 38 3 p k ps → (p.ownBlock = (Value.slice a n cp).ownBlock → k ≤ n) → w'.ownsRow w0.heap.size 38 3 p k ps) : Aq w0 H (M.set k [(.slice a n cp, xs), (v', ys)]) F w' := by
  have hown := h.ownM hk (List.mem_singleton.2 rfl)
  refine h.turnM hk (List.mem_singleton.2 rfl) hown hg (fun p hp => ?_) (fun p hp => ?_)
  · rcases List.mem_cons.1 hp with rfl | hp
    · exact ⟨n, hkeep _ _ _ hown fun _ => Nat.le_refl _⟩
    · obtain rfl := List.mem_singleton.1 hp
      exact ⟨n', h1⟩
  · rcases List.mem_cons.1 hp with rfl | hp
    · exact .inl ⟨_, List.mem_singleton.2 rfl, rfl⟩
    · obtain rfl := List.mem_singleton.1 hp
      rcases hb with e | e
      · exact .inl ⟨_, List.mem_singleton.2 rfl, e⟩
      · exact .inr ⟨_, e, Nat.le_refl _⟩
end
theorem new3S (w : World) (x : ByteArray) (t : Nat) : ∀ j z, [Value.string x, .string x, .string x][j]? = some z → (w.alloc (.cells #[.string x, .string x, .string x] t)).cell? ((⟨w.heap.size, 0, none⟩ : Addr).add j) = some z := by
  intro j z h
  rw [show (⟨w.heap.size, 0, none⟩ : Addr).add j = ⟨w.heap.size, j, none⟩ from by rw [Addr.add_mid, Nat.zero_add], World.cell?_alloc_at _ _ _ _ rfl, ← Array.getElem?_toList]
  exact h
theorem new6M (w : World) (x : ByteArray) (t : Nat) : ∀ j z, (mls [((0, 0), x), ((0, 0), x)])[j]? = some z → (w.alloc (.cells #[.int .i64 0, .int .i64 0, .string x, .int .i64 0, .int .i64 0, .string x] t)).cell? ((⟨w.heap.size, 0, none⟩ : Addr).add j) = some z := by
  intro j z h
  rw [show (⟨w.heap.size, 0, none⟩ : Addr).add j = ⟨w.heap.size, j, none⟩ from by rw [Addr.add_mid, Nat.zero_add], World.cell?_alloc_at _ _ _ _ rfl, ← Array.getElem?_toList]
  exact h
end Go.Proofs.YtmmbkfagchaocaaDoor.s10
