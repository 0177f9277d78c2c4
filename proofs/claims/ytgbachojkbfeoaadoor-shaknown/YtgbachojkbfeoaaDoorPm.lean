import Derived.Test.YtgbachojkbfeoaaDoorPk
namespace Go.Proofs.YtgbachojkbfeoaaDoor.pm
open Go.RowKit Go.PlainAid
open Go.Proofs.YtgbachojkbfeoaaDoor.pl Go.Proofs.YtgbachojkbfeoaaDoor.pc Go.Proofs.YtgbachojkbfeoaaDoor.ph Go.Proofs.YtgbachojkbfeoaaDoor.pi Go.Proofs.YtgbachojkbfeoaaDoor.ft Go.Proofs.YtgbachojkbfeoaaDoor.pj Go.Proofs.YtgbachojkbfeoaaDoor.pk
set_option linter.unusedVariables false

def T1 : ByteArray := ⟨#[]⟩
def T2 : ByteArray := ⟨#[97, 98, 99]⟩
def T3 : ByteArray := ⟨#[97, 98, 99, 100, 98, 99, 100, 101, 99, 100, 101, 102, 100, 101, 102, 103, 101, 102, 103, 104, 102, 103, 104, 105, 103, 104, 105, 106, 104, 105, 106, 107, 105, 106, 107, 108, 106, 107, 108, 109, 107, 108, 109, 110, 108, 109, 110, 111, 109, 110, 111, 112, 110, 111, 112, 113]⟩
def D1 : ByteArray := ⟨#[101, 51, 98, 48, 99, 52, 52, 50, 57, 56, 102, 99, 49, 99, 49, 52, 57, 97, 102, 98, 102, 52, 99, 56, 57, 57, 54, 102, 98, 57, 50, 52, 50, 55, 97, 101, 52, 49, 101, 52, 54, 52, 57, 98, 57, 51, 52, 99, 97, 52, 57, 53, 57, 57, 49, 98, 55, 56, 53, 50, 98, 56, 53, 53]⟩
def D2 : ByteArray := ⟨#[98, 97, 55, 56, 49, 54, 98, 102, 56, 102, 48, 49, 99, 102, 101, 97, 52, 49, 52, 49, 52, 48, 100, 101, 53, 100, 97, 101, 50, 50, 50, 51, 98, 48, 48, 51, 54, 49, 97, 51, 57, 54, 49, 55, 55, 97, 57, 99, 98, 52, 49, 48, 102, 102, 54, 49, 102, 50, 48, 48, 49, 53, 97, 100]⟩
def D3 : ByteArray := ⟨#[50, 52, 56, 100, 54, 97, 54, 49, 100, 50, 48, 54, 51, 56, 98, 56, 101, 53, 99, 48, 50, 54, 57, 51, 48, 99, 51, 101, 54, 48, 51, 57, 97, 51, 51, 99, 101, 52, 53, 57, 54, 52, 102, 102, 50, 49, 54, 55, 102, 54, 101, 99, 101, 100, 100, 52, 49, 57, 100, 98, 48, 54, 99, 49]⟩
def D4 : ByteArray := ⟨#[98, 97, 55, 56, 49, 54, 98, 102]⟩
set_option maxRecDepth 100000 in
theorem k1 : hexF (sha T1) = D1 := by decide +kernel
set_option maxRecDepth 100000 in
theorem k2 : hexF (sha T2) = D2 := by decide +kernel
set_option maxRecDepth 100000 in
theorem k3 : hexF (sha T3) = D3 := by decide +kernel
set_option maxRecDepth 100000 in
theorem k4 : hexF ((sha T2).extract 0 (wid 4)) = D4 := by decide +kernel

theorem known (w : World) (tabs : St8 w 0 ∧ K64 w 2) :
    Calls Tryd.prog 5 #[] w fun e w' => e = .returned (.bool true) ∧ Below w.heap.size w w' := by
  have T : Hid (Tab w) := Tab.of tabs
  clear tabs
  have S1 : Hid (∀ W, Tab W → Calls _ _ _ _ _) := fun W t => Sum T1 W (by decide) t
  have S2 : Hid (∀ W, Tab W → Calls _ _ _ _ _) := fun W t => Sum T2 W (by decide) t
  have S3 : Hid (∀ W, Tab W → Calls _ _ _ _ _) := fun W t => Sum T3 W (by decide) t
  have S4 : Hid (∀ W, Tab W → Calls _ _ _ _ _) := fun W t => Cut T2 4 W (by decide) t
  have z4 : ((sha T2).extract 0 (wid 4)).size = 4 := by rw [ByteArray.size_extract, sha_size]; rfl
  have X1 : Hid (∀ W, Calls _ _ _ _ _) := fun W => hexa (sha T1) W (by rw [sha_size]; omega) (by rw [sha_size]; omega)
  have X2 : Hid (∀ W, Calls _ _ _ _ _) := fun W => hexa (sha T2) W (by rw [sha_size]; omega) (by rw [sha_size]; omega)
  have X3 : Hid (∀ W, Calls _ _ _ _ _) := fun W => hexa (sha T3) W (by rw [sha_size]; omega) (by rw [sha_size]; omega)
  have X4 : Hid (∀ W, Calls _ _ _ _ _) := fun W => hexa ((sha T2).extract 0 (wid 4)) W (by rw [z4]; omega) (by rw [z4]; omega)
  rw [k1] at X1
  rw [k2] at X2
  rw [k3] at X3
  rw [k4] at X4
  clear z4
  generalize (sha T2).extract 0 (wid 4) = y4 at *
  generalize sha T1 = y1 at *
  generalize sha T2 = y2 at *
  generalize sha T3 = y3 at *
  go_enter Tryd.func5, Tryd.ntmps5
  go_wp2_with fail
  refine (S1.out _ T.out).mono ?_
  rintro e w1 ⟨rfl, hb⟩
  have HB1 : Hid (Below w.heap.size w w1) := hb
  clear hb
  go_wp2_with fail
  refine (X1.out _).mono ?_
  rintro e w2 ⟨rfl, hb⟩
  have HB2 : Hid (Below w.heap.size w w2) := HB1.out.trans (hb.mono HB1.out.size)
  clear hb
  go_wp2_with fail
  refine (S2.out _ (T.out.down HB2.out)).mono ?_
  rintro e w3 ⟨rfl, hb⟩
  have HB3 : Hid (Below w.heap.size w w3) := HB2.out.trans (hb.mono HB2.out.size)
  clear hb
  go_wp2_with fail
  refine (X2.out _).mono ?_
  rintro e w4 ⟨rfl, hb⟩
  have HB4 : Hid (Below w.heap.size w w4) := HB3.out.trans (hb.mono HB3.out.size)
  clear hb
  go_wp2_with fail
  refine (S3.out _ (T.out.down HB4.out)).mono ?_
  rintro e w5 ⟨rfl, hb⟩
  have HB5 : Hid (Below w.heap.size w w5) := HB4.out.trans (hb.mono HB4.out.size)
  clear hb
  go_wp2_with fail
  refine (X3.out _).mono ?_
  rintro e w6 ⟨rfl, hb⟩
  have HB6 : Hid (Below w.heap.size w w6) := HB5.out.trans (hb.mono HB5.out.size)
  clear hb
  go_wp2_with fail
  refine (S4.out _ (T.out.down HB6.out)).mono ?_
  rintro e w7 ⟨rfl, hb⟩
  have HB7 : Hid (Below w.heap.size w w7) := HB6.out.trans (hb.mono HB6.out.size)
  clear hb
  go_wp2_with fail
  refine (X4.out _).mono ?_
  rintro e w8 ⟨rfl, hb⟩
  have HB8 : Hid (Below w.heap.size w w8) := HB7.out.trans (hb.mono HB7.out.size)
  clear hb
  have hD1 : (D1.toList == [101, 51, 98, 48, 99, 52, 52, 50, 57, 56, 102, 99, 49, 99, 49, 52, 57, 97, 102, 98, 102, 52, 99, 56, 57, 57, 54, 102, 98, 57, 50, 52, 50, 55, 97, 101, 52, 49, 101, 52, 54, 52, 57, 98, 57, 51, 52, 99, 97, 52, 57, 53, 57, 57, 49, 98, 55, 56, 53, 50, 98, 56, 53, 53]) = true := by decide +kernel
  have hD2 : (D2.toList == [98, 97, 55, 56, 49, 54, 98, 102, 56, 102, 48, 49, 99, 102, 101, 97, 52, 49, 52, 49, 52, 48, 100, 101, 53, 100, 97, 101, 50, 50, 50, 51, 98, 48, 48, 51, 54, 49, 97, 51, 57, 54, 49, 55, 55, 97, 57, 99, 98, 52, 49, 48, 102, 102, 54, 49, 102, 50, 48, 48, 49, 53, 97, 100]) = true := by decide +kernel
  have hD3 : (D3.toList == [50, 52, 56, 100, 54, 97, 54, 49, 100, 50, 48, 54, 51, 56, 98, 56, 101, 53, 99, 48, 50, 54, 57, 51, 48, 99, 51, 101, 54, 48, 51, 57, 97, 51, 51, 99, 101, 52, 53, 57, 54, 52, 102, 102, 50, 49, 54, 55, 102, 54, 101, 99, 101, 100, 100, 52, 49, 57, 100, 98, 48, 54, 99, 49]) = true := by decide +kernel
  have hD4 : (D4.toList == [98, 97, 55, 56, 49, 54, 98, 102]) = true := by decide +kernel
  go_wp2
  go_ret
  exact ⟨rfl, HB8.out⟩
end Go.Proofs.YtgbachojkbfeoaaDoor.pm
