/- The walk of FnExactEditsDo. -/
import Derived.Test.YtiejfbodcjckeaaEdF
namespace Go.Proofs.Ytiejfbodcjckeaa
open Go.ChangeShapes Go.WideShapes Go.ChangeAt Go.RowKit
set_option maxRecDepth 100000
set_option maxHeartbeats 1000000 in
theorem editsDo_law (s : ByteArray) (a : Option Addr) (cap : Nat) (xs : List EditT) (w : World) (hs : s.size ≤ maxLen) (H : EditsAt w a xs) :
    Calls Try.prog 5 #[.string s, .slice a xs.length cap] w fun e w' => e = .returned (.bool true) ∧ Below w.heap.size w w' := by
  have hs' := hs
  unfold maxLen at hs'
  go_enter Try.func5, Try.ntmps5
  by_cases hlen : (1048576 : Int) < (s.size : Int)
  · go_wp2
    go_ret
    exact ⟨rfl, Below.refl _ _⟩
  go_wp2_with fail
  refine (szEditS_any a cap xs _ _ H (by omega) (by omega)).mono ?_
  rintro e w2 ⟨rfl, B2⟩
  by_cases hneg : szEditsM xs 1048576 < 0
  · go_wp2
    go_ret
    exact ⟨rfl, B2⟩
  obtain ⟨n1, _⟩ := szEditsM_le (xs := xs) (left := 1048576) (by omega)
  have hnn : decide (szEditsM xs 1048576 < 0) = false := by simpa using hneg
  generalize szEditsM xs 1048576 = left1 at *
  go_wp2_with fail
  refine (toEditS_any a cap xs _ (H.below B2 (Nat.le_refl _)) (by omega)).mono ?_
  rintro e w3 ⟨b3, rfl, l3, row3, hb3⟩
  have R3 := EditsAt.of_row row3 H.fits
  have B3 := below_on B2 hb3 (Nat.le_refl _)
  clear B2 hb3 row3 l3
  go_wp2_with fail
  refine (sEditsDo_any s _ _ xs _ hs R3).mono ?_
  rintro e w4 ⟨rfl, hb4⟩
  have B4 := below_on B3 hb4 (Nat.le_refl _)
  clear B3 hb4 R3
  go_wp2_with fail
  refine (toEditS_any a cap xs _ (H.below B4 (Nat.le_refl _)) (by omega)).mono ?_
  rintro e w5 ⟨b5, rfl, l5, row5, hb5⟩
  have R5 := EditsAt.of_row row5 H.fits
  have B5 := below_on B4 hb5 (Nat.le_refl _)
  clear B4 hb5 row5 l5
  go_wp2_with fail
  refine (editsDo_any s _ _ xs _ hs R5).mono ?_
  rintro e w6 ⟨rfl, hb6⟩
  have R6 := R5.below hb6 (Nat.le_refl _)
  have B6 := below_on B5 hb6 (Nat.le_refl _)
  clear B5 hb6 R5
  generalize (manyE s xs).getD ⟨#[]⟩ = t at *
  generalize (manyE s xs).isSome = b at *
  have hne : (t.toList != t.toList) = false := by simp
  cases b
  all_goals
    go_wp2_with fail
    refine (toEditS_any a cap xs _ (H.below B6 (Nat.le_refl _)) (by omega)).mono ?_
    rintro e w7 ⟨b7, rfl, l7, row7, hb7⟩
    have R7 := EditsAt.of_row row7 H.fits
    have R7' := R6.below hb7 (Nat.le_refl _)
    have B7 := below_on B6 hb7 (Nat.le_refl _)
    clear B6 hb7 R6 row7 l7
    go_wp2_with fail
    refine (eqEditS_any _ _ _ _ xs _ R7' R7).mono ?_
    rintro e w8 ⟨rfl, hb8⟩
    have B8 := below_on B7 hb8 (Nat.le_refl _)
    clear B7 hb8 R7 R7'
    go_wp2
    go_ret
    exact ⟨rfl, B8⟩
end Go.Proofs.Ytiejfbodcjckeaa
