import Derived.Test.YtmmbkfagchaocaaDoorH4
import Derived.Test.YtmmbkfagchaocaaDoorD3
import Derived.Test.YtmmbkfagchaocaaDoorD2
import Derived.Test.YtmmbkfagchaocaaDoorA4
import Derived.Test.YtmmbkfagchaocaaDoorA5
import Derived.Test.YtmmbkfagchaocaaDoorB1
namespace Go.Proofs.YtmmbkfagchaocaaDoor.s13
open Go.RowKit Go.PlainAid
open Go.Proofs.YtmmbkfagchaocaaDoor.pl Go.Proofs.YtmmbkfagchaocaaDoor.pi Go.Proofs.YtmmbkfagchaocaaDoor.pj Go.Proofs.YtmmbkfagchaocaaDoor.rf Go.Proofs.YtmmbkfagchaocaaDoor.ca Go.Proofs.YtmmbkfagchaocaaDoor.cb Go.Proofs.YtmmbkfagchaocaaDoor.cp Go.Proofs.YtmmbkfagchaocaaDoor.cs Go.Proofs.YtmmbkfagchaocaaDoor.ka Go.Proofs.YtmmbkfagchaocaaDoor.kb Go.Proofs.YtmmbkfagchaocaaDoor.ga Go.Proofs.YtmmbkfagchaocaaDoor.gb Go.Proofs.YtmmbkfagchaocaaDoor.na Go.Proofs.YtmmbkfagchaocaaDoor.nb Go.Proofs.YtmmbkfagchaocaaDoor.nc Go.Proofs.YtmmbkfagchaocaaDoor.oa Go.Proofs.YtmmbkfagchaocaaDoor.ob Go.Proofs.YtmmbkfagchaocaaDoor.qa Go.Proofs.YtmmbkfagchaocaaDoor.qb Go.Proofs.YtmmbkfagchaocaaDoor.qc Go.Proofs.YtmmbkfagchaocaaDoor.rg Go.Proofs.YtmmbkfagchaocaaDoor.rh Go.Proofs.YtmmbkfagchaocaaDoor.rq
set_option linter.unusedVariables false

theorem merge_len (wd lo hi : Int) (hs : List ByteArray) (lo' hi' : Int) (hs' : List ByteArray) : (pick (mergeE wd lo hi hs lo' hi' hs') (labs (mergeR wd lo hi hs lo' hi' hs').1) []).length ≤ 244 ∧ (pick (mergeE wd lo hi hs lo' hi' hs') (mergeR wd lo hi hs lo' hi' hs').2 []).length ≤ 244 := by
  unfold pick
  by_cases h : mergeE wd lo hi hs lo' hi' hs' = 0
  · rw [if_pos h, if_pos h]
    unfold mergeE at h
    have h1 : chkE wd lo hi hs = 0 := by
      by_cases h1 : chkE wd lo hi hs = 0
      · exact h1
      · rw [if_neg h1] at h; exact h
    rw [if_pos h1] at h
    have h2 : chkE wd lo' hi' hs' = 0 := by
      by_cases h2 : chkE wd lo' hi' hs' = 0
      · exact h2
      · rw [if_neg h2] at h; exact h
    have G1 := chk_ok.1 h1
    have G2 := chk_ok.1 h2
    have l1 : (opened lo hi hs).length ≤ 122 := by rw [opened_len G1]; obtain ⟨_, _, _, _, _, _, h⟩ := good_form G1; exact h
    have l2 : (opened lo' hi' hs').length ≤ 122 := by rw [opened_len G2]; obtain ⟨_, _, _, _, _, _, h⟩ := good_form G2; exact h
    have hc : (mergeR wd lo hi hs lo' hi' hs').1.length + (mergeR wd lo hi hs lo' hi' hs').2.length ≤ 244 := by
      show (runR (NF wd) (opened lo hi hs).reverse (opened lo' hi' hs')).1.length + (runR (NF wd) (opened lo hi hs).reverse (opened lo' hi' hs')).2.length ≤ 244
      rw [runR_count, List.length_reverse]
      omega
    refine ⟨?_, by omega⟩
    unfold labs
    simp only [List.length_map, List.length_reverse]
    omega
  · rw [if_neg h, if_neg h]
    exact ⟨Nat.zero_le _, Nat.zero_le _⟩
theorem push_len (wd lo hi : Int) (hs : List ByteArray) (h : ByteArray) : (pick (pushE wd lo hi hs h) (labs (pushR wd lo hi hs h).1) []).length ≤ 244 ∧ (pick (pushE wd lo hi hs h) (pushR wd lo hi hs h).2 []).length ≤ 244 := by
  unfold pick
  by_cases hh : pushE wd lo hi hs h = 0
  · rw [if_pos hh, if_pos hh]
    unfold pushE at hh
    have h1 : chkE wd lo hi hs = 0 := by
      by_cases h1 : chkE wd lo hi hs = 0
      · exact h1
      · rw [if_neg h1] at hh; exact hh
    have G1 := chk_ok.1 h1
    have l1 : (opened lo hi hs).length ≤ 122 := by rw [opened_len G1]; obtain ⟨_, _, _, _, _, _, h⟩ := good_form G1; exact h
    have hc : (pushR wd lo hi hs h).1.length + (pushR wd lo hi hs h).2.length ≤ 244 := by
      show (joinR (NF wd) (opened lo hi hs).reverse ((0, hi.toNat), h)).1.length + (joinR (NF wd) (opened lo hi hs).reverse ((0, hi.toNat), h)).2.length ≤ 244
      rw [joinR_count, List.length_reverse]
      omega
    refine ⟨?_, by omega⟩
    unfold labs
    simp only [List.length_map, List.length_reverse]
    omega
  · rw [if_neg hh, if_neg hh]
    exact ⟨Nat.zero_le _, Nat.zero_le _⟩
theorem behindC : BehindC := fun wd B p x vn vw ns wh w a b c d e f g h i j => rp.rbehind wd B p x vn vw ns wh w a b c d e f g h i j
theorem two_push {T : World → Prop} (later : ∀ {w w' : World}, T w → Below w.heap.size w w' → T w') (tab : ∀ {w : World}, T w → Tab4 w) (PC : PushC T) (wd : Int) (hwd : i64 wd) (lo hi : Int) (hlo : i64 lo) (hhi : i64 hi) (u : Value) (hs : List ByteArray) (h : ByteArray) (hh0 : h.size ≤ 140737488352000) (w : World) (hT : T w) (hR : ReadsT w u hs) (hf : Fits hs) : s11.Twofold w 5 7 #[.int .i64 wd, FV lo hi u, .string h] :=
  ⟨_, _, _, _, _, (push_len wd lo hi hs h).1, (push_len wd lo hi hs h).2, fun W b => PC wd lo hi u hs h W hwd hlo hhi (later hT b) (hR.later b) hf hh0, fun W b => ru.rPush behindC wd lo hi u hs h W hlo hhi (tab (later hT b)) (hR.later b) hf hh0⟩
theorem two_merge {T : World → Prop} (later : ∀ {w w' : World}, T w → Below w.heap.size w w' → T w') (tab : ∀ {w : World}, T w → Tab4 w) (MC : MergeC T) (wd : Int) (hwd : i64 wd) (lo hi : Int) (hlo : i64 lo) (hhi : i64 hi) (u : Value) (hs : List ByteArray) (lo' hi' : Int) (hlo' : i64 lo') (hhi' : i64 hi') (u' : Value) (hs' : List ByteArray) (w : World) (hT : T w) (hR : ReadsT w u hs) (hf : Fits hs) (hR' : ReadsT w u' hs') (hf' : Fits hs') : s11.Twofold w 6 8 #[.int .i64 wd, FV lo hi u, FV lo' hi' u'] :=
  ⟨_, _, _, _, _, (merge_len wd lo hi hs lo' hi' hs').1, (merge_len wd lo hi hs lo' hi' hs').2, fun W b => MC wd lo hi u hs lo' hi' u' hs' W hwd hlo hhi hlo' hhi' (later hT b) (hR.later b) hf (hR'.later b) hf', fun W b => rt.rMerge behindC wd lo hi u hs lo' hi' u' hs' W hlo hhi hlo' hhi' (tab (later hT b)) (hR.later b) hf (hR'.later b) hf'⟩
section
open Go.Proofs.YtmmbkfagchaocaaDoor.ft Go.Proofs.YtmmbkfagchaocaaDoor.cv Go.Proofs.YtmmbkfagchaocaaDoor.xc Go.Proofs.YtmmbkfagchaocaaDoor.tb Go.Proofs.YtmmbkfagchaocaaDoor.yf Go.Proofs.YtmmbkfagchaocaaDoor.yg Go.Proofs.YtmmbkfagchaocaaDoor.yi Go.Proofs.YtmmbkfagchaocaaDoor.yj
theorem fresh_walk (W : World) (a0 : Int) (w0 : (Lit.int .i64 a0).wf = true) (a1 : Int) (wA : (Lit.int .i64 a1).wf = true) (b1 : Int) (wB : (Lit.int .i64 b1).wf = true) (v1 : Value) (xs : List ByteArray) (hr : ReadsT W v1 xs) (hx : ∀ x ∈ xs, x.size ≤ 140737488351232) (hl : xs.length * 16 ≤ 140737488351232) (a2 : Int) (wA2 : (Lit.int .i64 a2).wf = true) (b2 : Int) (wB2 : (Lit.int .i64 b2).wf = true) (v2 : Value) (ys : List ByteArray) (hr2 : ReadsT W v2 ys) (hx2 : ∀ x ∈ ys, x.size ≤ 140737488351232) (hl2 : ys.length * 16 ≤ 140737488351232) (h : ByteArray) (hz : h.size ≤ 140737488351232) (tabs : St8 W 0 ∧ K64 W 2 ∧ TabB W ∧ St8 W 3 ∧ K64 W 5) :
    Calls Tryd.prog 3 #[.int .i64 a0, FV a1 b1 v1, FV a2 b2 v2, .string h] W fun e w' => e = .returned (.bool true) ∧ Below W.heap.size W w' := by
  have PC : PushC TB4 := pushC TB4.down (fun h => h.tb.t) (fun h => h.d)
  have MC : MergeC TB4 := mergeC TB4.down (fun h => h.tb.t) (fun h => h.d)
  have f1 : Fits xs := ⟨fun x h => by have := hx x h; omega, hl⟩
  have f2 : Fits ys := ⟨fun x h => by have := hx2 x h; omega, hl2⟩
  have TT : TB4 W := TB4.of tabs
  have k1 := two_push (T := TB4) TB4.down (fun h => h.t) PC a0 (i64_of w0) a1 b1 (i64_of wA) (i64_of wB) v1 xs h (by omega) W TT hr f1
  have k2 := two_push (T := TB4) TB4.down (fun h => h.t) PC a0 (i64_of w0) a2 b2 (i64_of wA2) (i64_of wB2) v2 ys h (by omega) W TT hr2 f2
  have k3 := two_merge (T := TB4) TB4.down (fun h => h.t) MC a0 (i64_of w0) a1 b1 (i64_of wA) (i64_of wB) v1 xs a2 b2 (i64_of wA2) (i64_of wB2) v2 ys W TT hr f1 hr2 f2
  have k4 := two_merge (T := TB4) TB4.down (fun h => h.t) MC a0 (i64_of w0) a2 b2 (i64_of wA2) (i64_of wB2) v2 ys a1 b1 (i64_of wA) (i64_of wB) v1 xs W TT hr2 f2 hr f1
  obtain ⟨a, cap, rfl, _⟩ := hr
  obtain ⟨a', cap', rfl, _⟩ := hr2
  exact s12.comp_fresh W a0 a1 b1 a _ cap a2 b2 a' _ cap' h k1 k2 k3 k4
end
end Go.Proofs.YtmmbkfagchaocaaDoor.s13
