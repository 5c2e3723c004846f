/- The walk of FnExactStepsText. -/
import Derived.Test.YtcningdeocmbgaaDoorStxB
namespace Go.Proofs.YtcningdeocmbgaaDoor
open Go.ChangeShapes Go.WideShapes Go.ChangeAt Go.RowKit
set_option maxRecDepth 100000
set_option maxHeartbeats 2000000 in
theorem stepsText_law (a : Option Addr) (cap : Nat) (zs : List StepT) (w : World) (H : StepsAt w a zs) :
    Calls Tryd.prog 3 #[.slice a zs.length cap] w fun e w' => e = .returned (.bool true) ∧ Below w.heap.size w w' := by
  go_enter Tryd.func3, Tryd.ntmps3
  go_wp2_with fail
  refine (szStepS_any a cap zs _ _ H (by omega) (by omega)).mono ?_
  rintro e w2 ⟨rfl, c2⟩
  by_cases hneg : szStepsM zs 1048576 < 0
  · go_wp2
    go_ret
    exact ⟨rfl, c2⟩
  obtain ⟨n1, _⟩ := szStepsM_le (xs := zs) (left := 1048576) (by omega)
  have hnn : decide (szStepsM zs 1048576 < 0) = false := by simpa using hneg
  generalize szStepsM zs 1048576 = left1 at *
  go_wp2_with fail
  refine (toStepS_any a cap zs _ (H.below c2 (Nat.le_refl _)) (by omega)).mono ?_
  rintro e w3 ⟨b3, rfl, l3, row3, hb3⟩
  have R3 := StepsAt.of_row row3 H.fits
  have c3 := Below.on c2 hb3 (Nat.le_refl _)
  clear c2 hb3 row3 l3
  go_wp2_with fail
  refine (sStepsText_any _ _ zs _ R3 (by omega)).mono ?_
  rintro e w4 ⟨rfl, hb4⟩
  have c4 := Below.on c3 hb4 (Nat.le_refl _)
  clear c3 hb4 R3
  go_wp2_with fail
  refine (toStepS_any a cap zs _ (H.below c4 (Nat.le_refl _)) (by omega)).mono ?_
  rintro e w5 ⟨b5, rfl, l5, row5, hb5⟩
  have R5 := StepsAt.of_row row5 H.fits
  have c5 := Below.on c4 hb5 (Nat.le_refl _)
  clear c4 hb5 row5 l5
  go_wp2_with fail
  refine (stepsText_any _ _ zs _ R5 (by omega)).mono ?_
  rintro e w6 ⟨rfl, hb6⟩
  have R6 := R5.below hb6 (Nat.le_refl _)
  have c6 := Below.on c5 hb6 (Nat.le_refl _)
  clear c5 hb6 R5
  generalize stepsTextB zs = ok at *
  have hok : (ok.toList == ok.toList) = true := by simp
  have hok2 : (ok.toList != ok.toList) = false := by simp
  go_wp2_with fail
  refine (toStepS_any a cap zs _ (H.below c6 (Nat.le_refl _)) (by omega)).mono ?_
  rintro e w7 ⟨b7, rfl, l7, row7, hb7⟩
  have R7 := StepsAt.of_row row7 H.fits
  have S7 := R6.below hb7 (Nat.le_refl _)
  have c7 := Below.on c6 hb7 (Nat.le_refl _)
  clear c6 hb7 R6 row7 l7
  go_wp2_with fail
  refine (eqStepS_any _ _ _ _ zs _ S7 R7).mono ?_
  rintro e w8 ⟨rfl, hb8⟩
  have c8 := Below.on c7 hb8 (Nat.le_refl _)
  go_wp2_with fail
  go_ret
  exact ⟨rfl, c8⟩
end Go.Proofs.YtcningdeocmbgaaDoor
