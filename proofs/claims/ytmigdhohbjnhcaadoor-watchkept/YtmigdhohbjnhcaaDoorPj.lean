import Derived.Test.YtmigdhohbjnhcaaDoorPi
import Derived.Test.YtmigdhohbjnhcaaDoorFt
namespace Go.Proofs.YtmigdhohbjnhcaaDoor.pj
open Go.RowKit Go.PlainAid
open Go.Proofs.YtmigdhohbjnhcaaDoor.pl Go.Proofs.YtmigdhohbjnhcaaDoor.pa Go.Proofs.YtmigdhohbjnhcaaDoor.pb Go.Proofs.YtmigdhohbjnhcaaDoor.pc Go.Proofs.YtmigdhohbjnhcaaDoor.pd Go.Proofs.YtmigdhohbjnhcaaDoor.pe Go.Proofs.YtmigdhohbjnhcaaDoor.pf Go.Proofs.YtmigdhohbjnhcaaDoor.pg Go.Proofs.YtmigdhohbjnhcaaDoor.ph Go.Proofs.YtmigdhohbjnhcaaDoor.pi Go.Proofs.YtmigdhohbjnhcaaDoor.ft
set_option linter.unusedVariables false

def sha (s : ByteArray) : ByteArray := shaF kF v0 s
theorem sha_size (s : ByteArray) : (sha s).size = 32 := shaF_size _ _ _

-- the two tables of package sha
structure Tab (w : World) : Prop where
  st : ST w v0
  kt : KT w kF
theorem Tab.of {w : World} (h : St8 w 1 ∧ K64 w 3) : Tab w := ⟨h.1, h.2⟩
theorem Tab.big {w : World} (h : Tab w) : 4 ≤ w.heap.size := h.kt.lt
theorem Tab.below {w w' : World} {B : Nat} (h : Tab w) (b : Below B w w') (hB : 4 ≤ B) : Tab w' := ⟨st_below h.st b (by omega), kt_below h.kt b (by omega)⟩
theorem Tab.down {w w' : World} (h : Tab w) (b : Below w.heap.size w w') : Tab w' := h.below b h.big
theorem Tab.keeps {w w' : World} {k : Nat} (h : Tab w) (b : Keeps k w w') (hk : 4 ≤ k) : Tab w' := ⟨st_keep h.st b hk, h.kt.keep b hk⟩
abbrev HA (w : World) (h : Nat) (t : ByteArray) : Prop := HashAt kF v0 w h t

theorem ok0 : Hid v0.ok := v0_ok
theorem Sum (s : ByteArray) (w : World) (hs : s.size ≤ 1125899906842624) (T : Hid (Tab w)) :
    Calls Tryd.prog 8 #[.string s] w fun e w' => e = .returned (.string (sha s)) ∧ Below w.heap.size w w' := sum kF v0 s.size s w ok0 hs rfl T.out.st T.out.kt T.out.big


end Go.Proofs.YtmigdhohbjnhcaaDoor.pj
