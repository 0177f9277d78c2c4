import Derived.Test.YtmgkfkfmiddanaaDoorNe
import Derived.Test.YtmgkfkfmiddanaaDoorMv
namespace Go.Proofs.YtmgkfkfmiddanaaDoor.nf
open Go.RowKit Go.PlainAid
open Go.Proofs.YtmgkfkfmiddanaaDoor.pl Go.Proofs.YtmgkfkfmiddanaaDoor.ft Go.Proofs.YtmgkfkfmiddanaaDoor.pj Go.Proofs.YtmgkfkfmiddanaaDoor.mo Go.Proofs.YtmgkfkfmiddanaaDoor.mt Go.Proofs.YtmgkfkfmiddanaaDoor.mu Go.Proofs.YtmgkfkfmiddanaaDoor.mv Go.Proofs.YtmgkfkfmiddanaaDoor.nd Go.Proofs.YtmgkfkfmiddanaaDoor.ne
set_option linter.unusedVariables false

theorem mw : MW Tab := ⟨fun _ h => h, fun _ _ h b => h.down b, fun key msg w h hk hm => macSum key msg w hk hm h⟩
theorem dw : DW Tab := { mw with
  no := fun key label n w _ h => derive_no key label n w h
  der := fun key label N w h hk hl hN => derive key label N w hk hl hN h }

theorem nestedW (key msg : ByteArray) (z0 : key.size ≤ 140737488351232) (z1 : msg.size ≤ 140737488351232) (w : World) (tabs : St8 w 0 ∧ K64 w 1) :
    Calls Tryd.prog 3 #[.string key, .string msg] w fun e w' => e = .returned (.bool true) ∧ Below w.heap.size w w' :=
  nested mw key msg w z0 z1 (Tab.of tabs)

theorem chainW (key label : ByteArray) (n m : Int) (z0 : key.size ≤ 140737488351232) (z1 : label.size ≤ 140737488351232) (w : World) (tabs : St8 w 0 ∧ K64 w 1) :
    Calls Tryd.prog 4 #[.string key, .string label, .int .i64 n, .int .i64 m] w fun e w' => e = .returned (.bool true) ∧ Below w.heap.size w w' := by
  by_cases h : n < 0 ∨ m < 0 ∨ 8160 < n ∨ 8160 < m
  · exact chain_no dw key label n m w (Tab.of tabs) h
  · obtain ⟨a, rfl⟩ := Int.eq_ofNat_of_zero_le (show 0 ≤ n by omega)
    obtain ⟨b, rfl⟩ := Int.eq_ofNat_of_zero_le (show 0 ≤ m by omega)
    rcases Nat.lt_or_ge b a with hab | hab
    · exact chain dw key label b a a b w (Tab.of tabs) z0 z1 (by omega) (by omega) (.inr ⟨hab, rfl, rfl⟩)
    · exact chain dw key label a b a b w (Tab.of tabs) z0 z1 (by omega) (by omega) (.inl ⟨hab, rfl, rfl⟩)
end Go.Proofs.YtmgkfkfmiddanaaDoor.nf
