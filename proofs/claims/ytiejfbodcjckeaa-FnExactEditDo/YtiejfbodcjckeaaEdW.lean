/- The walks of FnExactEditDo and FnExactEditBack. -/
import Derived.Test.YtiejfbodcjckeaaEdE
namespace Go.Proofs.Ytiejfbodcjckeaa
open Go.ChangeShapes Go.WideShapes Go.ChangeAt Go.RowKit
set_option maxRecDepth 100000
set_option maxHeartbeats 1000000 in
theorem editDo_law (s : ByteArray) (k a : Int) (g : ByteArray) (w : World) (hs : s.size ≤ maxLen) (HE : EditWf (k, a, g)) :
    Calls Try.prog 3 #[.string s, .agg #[.int .i64 k, .int .i64 a, .string g]] w fun e w' => e = .returned (.bool true) ∧ Below w.heap.size w w' := by
  have B1 := (Below.refl w.heap.size w).alloc (Nat.le_refl _) (.cells #[.int .i64 k, .int .i64 a, .string g] 23)
  have X1 := BoxE.new w k a g 23
  have hs' := hs
  unfold maxLen at hs'
  go_enter Try.func3, Try.ntmps3
  by_cases hlen : (1048576 : Int) < (s.size : Int)
  · go_wp2
    go_ret
    exact ⟨rfl, B1⟩
  obtain ⟨x, x0, x1, x2⟩ := X1
  go_wp2_with fail
  refine (szEdit_any (k, a, g) _ _ (by omega) (by omega) HE).mono ?_
  rintro e w2 ⟨rfl, hb2⟩
  have X2 := BoxE.keep ⟨x, x0, x1, x2⟩ hb2 (Nat.le_refl _)
  have B2 := below_on B1 hb2 (Nat.le_refl _)
  clear x x0 x1 x2 hb2 B1
  by_cases hneg : szEditM (k, a, g) 1048576 < 0
  · go_wp2
    go_ret
    exact ⟨rfl, B2⟩
  have hnn : decide (szEditM (k, a, g) 1048576 < 0) = false := by simpa using hneg
  generalize szEditM (k, a, g) 1048576 = left1 at *
  obtain ⟨x, x0, x1, x2⟩ := X2
  go_wp2_with fail
  refine (toEdit_any k a g _).mono ?_
  rintro e w3 ⟨rfl, hb3⟩
  have X3 := BoxE.keep ⟨x, x0, x1, x2⟩ hb3 (Nat.le_refl _)
  have B3 := below_on B2 hb3 (Nat.le_refl _)
  clear x x0 x1 x2 hb3 B2
  go_wp2_with fail
  refine (sEditDo_any k a g s _ hs).mono ?_
  rintro e w4 ⟨rfl, hb4⟩
  have X4 := X3.keep hb4 (Nat.le_refl _)
  have B4 := below_on B3 hb4 (Nat.le_refl _)
  clear X3 hb4 B3
  obtain ⟨x, x0, x1, x2⟩ := X4
  go_wp2_with fail
  refine (toEdit_any k a g _).mono ?_
  rintro e w5 ⟨rfl, hb5⟩
  have B5 := below_on B4 hb5 (Nat.le_refl _)
  clear x x0 x1 x2 hb5 B4
  go_wp2_with fail
  refine (editDo_any k a g s _ hs).mono ?_
  rintro e w6 ⟨rfl, hb6⟩
  have B6 := below_on B5 hb6 (Nat.le_refl _)
  clear hb6 B5
  generalize doS s k a g = t at *
  generalize doB s k a g = b at *
  have hne : (t.toList != t.toList) = false := by simp
  cases b
  all_goals
    go_wp2
    go_ret
    exact ⟨rfl, B6⟩
set_option maxHeartbeats 1000000 in
theorem editBack_law (s : ByteArray) (k a : Int) (g : ByteArray) (w : World) (hs : s.size ≤ maxLen) (HE : EditWf (k, a, g)) :
    Calls Try.prog 4 #[.string s, .agg #[.int .i64 k, .int .i64 a, .string g]] w fun e w' => e = .returned (.bool true) ∧ Below w.heap.size w w' := by
  have B1 := (Below.refl w.heap.size w).alloc (Nat.le_refl _) (.cells #[.int .i64 k, .int .i64 a, .string g] 23)
  have X1 := BoxE.new w k a g 23
  have hs' := hs
  unfold maxLen at hs'
  go_enter Try.func4, Try.ntmps4
  by_cases hlen : (1048576 : Int) < (s.size : Int)
  · go_wp2
    go_ret
    exact ⟨rfl, B1⟩
  obtain ⟨x, x0, x1, x2⟩ := X1
  go_wp2_with fail
  refine (szEdit_any (k, a, g) _ _ (by omega) (by omega) HE).mono ?_
  rintro e w2 ⟨rfl, hb2⟩
  have X2 := BoxE.keep ⟨x, x0, x1, x2⟩ hb2 (Nat.le_refl _)
  have B2 := below_on B1 hb2 (Nat.le_refl _)
  clear x x0 x1 x2 hb2 B1
  by_cases hneg : szEditM (k, a, g) 1048576 < 0
  · go_wp2
    go_ret
    exact ⟨rfl, B2⟩
  have hnn : decide (szEditM (k, a, g) 1048576 < 0) = false := by simpa using hneg
  generalize szEditM (k, a, g) 1048576 = left1 at *
  obtain ⟨x, x0, x1, x2⟩ := X2
  go_wp2_with fail
  refine (toEdit_any k a g _).mono ?_
  rintro e w3 ⟨rfl, hb3⟩
  have X3 := BoxE.keep ⟨x, x0, x1, x2⟩ hb3 (Nat.le_refl _)
  have B3 := below_on B2 hb3 (Nat.le_refl _)
  clear x x0 x1 x2 hb3 B2
  go_wp2_with fail
  refine (sEditBack_any k a g s _ hs).mono ?_
  rintro e w4 ⟨rfl, hb4⟩
  have X4 := X3.keep hb4 (Nat.le_refl _)
  have B4 := below_on B3 hb4 (Nat.le_refl _)
  clear X3 hb4 B3
  have hback := fun w' => editBack_any k a g s w' hs
  unfold BackSays at hback
  generalize backK s k a g = k' at *
  generalize backA s k a g = a' at *
  generalize backG s k a g = g' at *
  generalize doB s k a g = b at *
  have hal := (Below.refl w4.heap.size w4).alloc (Nat.le_refl _) (.cells #[.int .i64 k', .int .i64 a', .string g'] 27)
  have X5 := X4.keep hal (Nat.le_refl _)
  have Z5 := BoxE.new w4 k' a' g' 27
  have B5 := below_on B4 hal (Nat.le_refl _)
  clear hal B4
  obtain ⟨x, x0, x1, x2⟩ := X4
  go_wp2_with fail
  refine (toEdit_any k a g _).mono ?_
  rintro e w5 ⟨rfl, hb5⟩
  have Z6 := Z5.keep hb5 (Nat.le_refl _)
  have B6 := below_on B5 hb5 (Nat.le_refl _)
  clear x x0 x1 x2 hb5 B5 Z5 X5
  go_wp2_with fail
  refine (hback _).mono ?_
  rintro e w6 ⟨rfl, hb6⟩
  have Z7 := Z6.keep hb6 (Nat.le_refl _)
  have B7 := below_on B6 hb6 (Nat.le_refl _)
  have hsz7 := B7.size
  clear hb6 B6 Z6 hback
  have hal := (Below.refl w6.heap.size w6).alloc (Nat.le_refl _) (.cells #[.int .i64 k', .int .i64 a', .string g'] 27)
  have B8 := below_on B7 hal (Nat.le_refl _)
  clear hal
  obtain ⟨x, x0, x1, x2⟩ := Z7
  go_wp2_with fail
  refine (eqEdit_any k' a' g' _).mono ?_
  rintro e w7 ⟨rfl, hb7⟩
  have B9 := below_on B8 hb7 (Nat.le_refl _)
  clear hb7 B8 B7 x x0 x1 x2 hsz7
  cases b
  all_goals
    go_wp2
    go_ret
    exact ⟨rfl, B9⟩
end Go.Proofs.Ytiejfbodcjckeaa
