import Derived.Test.YtmindflfjocjlaaGreatQ01
import Derived.Test.YtmindflfjocjlaaGreatQ00
import Derived.Laws.OwnMore
import Derived.Maps.AppendAt
namespace Go.Proofs.YtmindflfjocjlaaGreat.vs
open Go.RowKit Go.PlainAid
open Go.Proofs.YtmindflfjocjlaaGreat.cp Go.Proofs.YtmindflfjocjlaaGreat.ka
set_option linter.unusedVariables false

-- an append, and what stands of the rows that share the block (elements of any size)
theorem run_appS {P : Program} (w : World) (B sz : Nat) (t ty e : TypeId) (i : TypeInfo) (z : Value) (bytes : Nat) (ht : P.underlying t = some (.slice e)) (hi : P.info? e = some i) (hz : i.zero = some z)
    (hsize : i.size = sz) (hby : i.bytes = bytes) (hzs : z.cells.size = sz) (hsz : 0 < sz) (v : Value) (n : Nat) (xs : List Value) (hown : w.ownsRow B e sz v n xs)
    (a : Addr) (m c : Nat) (news : List Value) (hl : news.length = m * sz) (hnews : ∀ j u, news[j]? = some u → w.cell? (a.add j) = some u) (h1 : ∀ u ∈ news, u.oneCell' = true) (h63 : n + m ≤ maxLen) (hbytes : (n + m) * bytes ≤ 140737488355328) (hB : B ≤ w.heap.size) :
    ∃ v' w', (Builtin.append_ #[t, t] ty #[v, .slice (some a) m c]).run P w = .ok v' w' ∧ w'.ownsRow B e sz v' (n + m) (xs ++ news) ∧ w.grownBy w' v.ownBlock ∧ (v'.ownBlock = v.ownBlock ∨ v'.ownBlock = some w.heap.size) ∧
      ∀ p k ps, w.ownsRow B e sz p k ps → (p.ownBlock = v.ownBlock → k ≤ n) → w'.ownsRow B e sz p k ps := by
  obtain ⟨v', w', hr, h2, h3, h4, h5⟩ := run_append_own_at (P := P) w B t ty e i z sz bytes ht hi hz hsize hby hzs hsz v n xs hown a m c news hl hnews h1 h63 hbytes hB
  refine ⟨v', w', hr, h2, h3, h5, fun p k ps hp hk => ?_⟩
  by_cases hne : p.ownBlock = none ∨ p.ownBlock ≠ v.ownBlock
  · exact hp.kept h3 hne
  · have hpn : p.ownBlock ≠ none := fun e => hne (.inl e)
    have hpe : p.ownBlock = v.ownBlock := by by_cases e : p.ownBlock = v.ownBlock; exact e; exact absurd (.inr e) hne
    have hkn := hk hpe
    rcases hown.2 with ⟨rfl, rfl⟩ | ⟨g, cap, cur, rfl, hbg, hg, hnc, hcm, hcs, htake⟩
    · exact absurd hpe hpn
    · rcases hp.2 with ⟨rfl, _⟩ | ⟨g2, cap2, cur2, rfl, hbg2, hg2, hnc2, hcm2, hcs2, htake2⟩
      · exact absurd rfl hpn
      · have eg : g2 = g := Option.some.inj hpe
        subst eg
        have ec : cur2 = cur := by
          rw [hg] at hg2
          have := Option.some.inj hg2
          injection this with q1 q2 q3
          exact q1.symm
        subst ec
        have ecap : cap2 = cap := Nat.eq_of_mul_eq_mul_right hsz (hcs2.symm.trans hcs)
        subst ecap
        by_cases hroom : n + m ≤ cap2
        · have hr2 := run_append_room (P := P) w t ty e i ht hi g2 n cap2 cur2 hg a m c news (by rw [hsize]; exact hl) hnews h1 hroom (by rw [hsize, hl, hcs, ← Nat.add_mul]; exact Nat.mul_le_mul_right _ hroom)
          rw [hr] at hr2
          injection hr2 with q1 q2
          subst q1
          rcases h2.2 with ⟨q, _⟩ | ⟨g3, cap3, cur3, q, hbg3, hg3, hnc3, hcm3, hcs3, htake3⟩
          · cases q
          · have qa := Value.slice.inj q
            have qb : g2 = g3 := congrArg Addr.block (Option.some.inj qa.1)
            have qc : cap2 = cap3 := qa.2.2
            subst qb qc
            refine ⟨hp.1, .inr ⟨g2, cap2, cur3, rfl, hbg2, hg3, hnc2, hcm2, hcs3, ?_⟩⟩
            have e1 : cur3.toList.take (k * sz) = ((cur3.toList.take ((n + m) * sz)).take (k * sz)) := by rw [List.take_take, Nat.min_eq_left (Nat.mul_le_mul_right _ (by omega))]
            have e2 : cur2.toList.take (k * sz) = ((cur2.toList.take (n * sz)).take (k * sz)) := by rw [List.take_take, Nat.min_eq_left (Nat.mul_le_mul_right _ hkn)]
            rw [e1, htake3, ← htake2, e2, htake, List.take_append_of_le_length (by rw [hown.1]; exact Nat.mul_le_mul_right _ hkn)]
        · have holds : ∀ j u, xs[j]? = some u → w.cell? ((⟨g2, 0, none⟩ : Addr).add j) = some u := hown.cells (g := g2) rfl
          have hr2 := run_append_grow (P := P) w t ty e i z ht hi hz ⟨g2, 0, none⟩ n cap2 xs (by rw [hsize]; exact hown.1) holds a m c news (by rw [hsize]; exact hl) hnews (by omega) (by simp only [maxLen] at h63; omega) (growslice_fits (by omega) (by rw [hby]; exact hbytes))
          rw [hr] at hr2
          injection hr2 with q1 q2
          refine ⟨hp.1, .inr ⟨g2, cap2, cur2, rfl, hbg2, ?_, hnc2, hcm2, hcs2, htake2⟩⟩
          rw [q2]
          exact (heap_alloc_old w.drew _ (Array.getElem?_eq_some_iff.1 hg2).1).trans hg2
theorem wpList_appS {P : Program} {w : World} {ops : Array Oper} {rest : List Oper} {o : Oper} {a : Act} {Q : Exit → Act → World → Prop} (hgd : o.guard = none) (s x : Operand) (t : TypeId)
    (ho : o.op = .call { callee := .builtin .append, args := #[s, x], argTypes := #[t, t] })
    (B sz : Nat) (e : TypeId) (i : TypeInfo) (z : Value) (bytes : Nat) (ht : P.underlying t = some (.slice e)) (hi : P.info? e = some i) (hz : i.zero = some z)
    (hsize : i.size = sz) (hby : i.bytes = bytes) (hzs : z.cells.size = sz) (hsz : 0 < sz)
    (v : Value) (n : Nat) (xs : List Value) (hs : a.eval s = v) (hown : w.ownsRow B e sz v n xs)
    (ad : Addr) (m c : Nat) (news : List Value) (hx : a.eval x = .slice (some ad) m c) (hl : news.length = m * sz) (hnews : ∀ j u, news[j]? = some u → w.cell? (ad.add j) = some u) (h1 : ∀ u ∈ news, u.oneCell' = true)
    (h63 : n + m ≤ maxLen) (hbytes : (n + m) * bytes ≤ 140737488355328) (hB : B ≤ w.heap.size)
    (h : ∀ v' w', w'.ownsRow B e sz v' (n + m) (xs ++ news) → w.grownBy w' v.ownBlock → (v'.ownBlock = v.ownBlock ∨ v'.ownBlock = some w.heap.size) → (∀ p k ps, w.ownsRow B e sz p k ps → (p.ownBlock = v.ownBlock → k ≤ n) → w'.ownsRow B e sz p k ps) → wpList P ops Q rest (a.put o.dst v') w') :
    wpList P ops Q (o :: rest) a w := by
  refine wpList_plain hgd fun K hK => ?_
  obtain ⟨v', w', hr, h2, h3, h4, h5⟩ := run_appS (P := P) w B sz t o.type e i z bytes ht hi hz hsize hby hzs hsz v n xs hown ad m c news hl hnews h1 h63 hbytes hB
  unfold Oper.wp execOp
  simp only [ho, resolve, invoke, builtin, Sem.run_bind, Sem.run_pure, Result.andThen_ok, List.map_toArray, List.map_cons, List.map_nil, hs, hx, hr]
  exact hK _ _ (h v' w' h2 h3 h4 h5)

end Go.Proofs.YtmindflfjocjlaaGreat.vs
