/- The walk of FnEditBack. -/
import Derived.Test.YtiejfbodcjckeaaEdJ
import Derived.Test.YtiejfbodcjckeaaEdM
namespace Go.Proofs.Ytiejfbodcjckeaa
open Go.ChangeShapes Go.WideShapes Go.ChangeAt Go.RowKit
set_option maxRecDepth 100000
theorem equalIn_Edit (r q : Int) (s : ByteArray) (w : World) : (Op.equalIn 10000 27 (.agg #[.int .i64 r, .int .i64 q, .string s]) (.agg #[.int .i64 r, .int .i64 q, .string s])).run Try.prog w = .ok true w := by
  have u3 := Try.underlying9
  have a3 := Try.isAgg9
  have z3 := Try.sizeOf9
  have u4 := Try.underlying3
  have a4 := Try.isAgg3
  have z4 := Try.sizeOf3
  have hS : Try.prog.underlying 27 = some (.struct (Try.prog.fieldsOf 27)) := by kernel_rfl
  have hp : Try.prog.stoodInHeld 27 = false := by kernel_rfl
  rw [show (10000 : Nat) = 9999 + 1 from rfl, run_equalIn_agg w 9999 27 _ _ hS hp]
  simp only [Program.fieldsOf, Try.underlying27]
  go_simp
theorem eqGuard_Edit (op : BinOp) (x y : Operand) (xs ys : Array Value) (w : World) : (eqGuard op 27 x y (.agg xs) (.agg ys)).run Try.prog w = .ok () w :=
  run_eqGuard_agg w op 27 x y xs ys (by kernel_rfl)
theorem run_eql_Edit (r q : Int) (s : ByteArray) (w : World) : Sem.run Try.prog (binOp .eql 27 (.agg #[.int .i64 r, .int .i64 q, .string s]) (.agg #[.int .i64 r, .int .i64 q, .string s])) w = .ok (.bool true) w := by
  rw [run_eql_struct, equalIn_Edit]; rfl
theorem run_neq_Edit (r q : Int) (s : ByteArray) (w : World) : Sem.run Try.prog (binOp .neq 27 (.agg #[.int .i64 r, .int .i64 q, .string s]) (.agg #[.int .i64 r, .int .i64 q, .string s])) w = .ok (.bool false) w := by
  rw [run_neq_struct, equalIn_Edit]; rfl
set_option maxHeartbeats 2000000 in
theorem editBackF_law (p : Option Addr) (n cap : Nat) (w : World) (H : BytesAt w p n cap) :
    Calls Try.prog 7 #[.slice p n cap] w fun e w' => e = .returned (.bool true) ∧ Below w.heap.size w w' := by
  by_cases h1 : (1048576 : Int) < (n : Int)
  · go_enter Try.func7, Try.ntmps7
    go_wp2
    go_ret
    exact ⟨rfl, Below.refl _ _⟩
  go_enter Try.func7, Try.ntmps7
  go_wp2_with fail
  refine (drawEditBack_any p n cap _ H).mono ?_
  rintro e w2 ⟨s, k, a, g, rfl, hs, hew, hg, B2⟩
  have hal := (Below.refl w2.heap.size w2).alloc (Nat.le_refl _) (.cells #[.int .i64 k, .int .i64 a, .string g] 27)
  have B3 := below_on B2 hal (Nat.le_refl _)
  have X3 := BoxE.new w2 k a g 27
  have hsm : s.size ≤ maxLen := by unfold maxLen; omega
  clear B2 hal
  go_wp2_with fail
  refine (editDo_any k a g s _ hsm).mono ?_
  rintro e w4 ⟨rfl, hb4⟩
  have X4 := X3.keep hb4 (Nat.le_refl _)
  have B4 := below_on B3 hb4 (Nat.le_refl _)
  clear X3 B3 hb4
  obtain ⟨x, x0, x1, x2⟩ := X4
  go_wp2_with fail
  refine (sEditDo_any k a g s _ hsm).mono ?_
  rintro e w5 ⟨rfl, hb5⟩
  have X5 := BoxE.keep ⟨x, x0, x1, x2⟩ hb5 (Nat.le_refl _)
  have B5 := below_on B4 hb5 (Nat.le_refl _)
  clear x x0 x1 x2 B4 hb5
  obtain ⟨x, x0, x1, x2⟩ := X5
  go_wp2_with fail
  refine (editBack_any k a g s _ hsm).mono ?_
  rintro e w6 ⟨rfl, hb6⟩
  have X6 := BoxE.keep ⟨x, x0, x1, x2⟩ hb6 (Nat.le_refl _)
  have B6 := below_on B5 hb6 (Nat.le_refl _)
  clear x x0 x1 x2 B5 hb6
  have hal := (Below.refl w6.heap.size w6).alloc (Nat.le_refl _) (.cells #[.int .i64 (backK s k a g), .int .i64 (backA s k a g), .string (backG s k a g)] 27)
  have Y7 := BoxE.new w6 (backK s k a g) (backA s k a g) (backG s k a g) 27
  have B7 := below_on B6 hal (Nat.le_refl _)
  have hsz6 := X6.1
  obtain ⟨x, x0, x1, x2⟩ := X6
  clear B6 hal
  go_wp2_with fail
  refine (sEditBack_any k a g s _ hsm).mono ?_
  rintro e w8 ⟨rfl, hb8⟩
  have Y8 := Y7.keep hb8 (Nat.le_refl _)
  have B8 := below_on B7 hb8 (Nat.le_refl _)
  clear x x0 x1 x2 B7 hb8 Y7
  have hal := (Below.refl w8.heap.size w8).alloc (Nat.le_refl _) (.cells #[.int .i64 (backK s k a g), .int .i64 (backA s k a g), .string (backG s k a g)] 27)
  have B9 := below_on B8 hal (Nat.le_refl _)
  have hsz8 := Y8.1
  clear B8 hal
  have hgd := eqGuard_Edit
  obtain ⟨y, y0, y1, y2⟩ := Y8
  cases hd : doB s k a g with
  | false =>
    clear hd
    generalize doS s k a g = t at *
    generalize backK s k a g = k' at *
    generalize backA s k a g = a' at *
    generalize backG s k a g = g' at *
    have heq := run_eql_Edit k' a' g'
    have hnq := run_neq_Edit k' a' g'
    have hne : (t.toList != t.toList) = false := by simp
    have hne2 : (t.toList == t.toList) = true := by simp
    go_wp2
    go_ret
    exact ⟨rfl, B9⟩
  | true =>
    obtain ⟨u1, u2⟩ := back_undoes hd
    have hfar := far_one (doB_fit hd)
    have hS : toE s k a g = doS s k a g := by unfold doS; rw [if_pos hd]
    rw [hS] at hfar
    have htz := doS_size s k a g
    have CF : ∀ w', Calls Try.prog 24 #[.string s, .string (doS s k a g)] w' fun e w'' => e = .returned (.int .i64 1) ∧ Below w'.heap.size w' w'' := fun w' => (editsFar_any s _ w' (by omega) (by omega)).mono fun e w'' h => ⟨by rw [h.1, hfar]; rfl, h.2⟩
    have CB : ∀ w', Calls Try.prog 14 #[.string (doS s k a g), .agg #[.int .i64 (backK s k a g), .int .i64 (backA s k a g), .string (backG s k a g)]] w' fun e w'' => e = .returned (.tuple #[.string s, .bool true]) ∧ Below w'.heap.size w' w'' := fun w' => (editDo_any _ _ _ _ w' (by unfold maxLen; omega)).mono fun e w'' h => ⟨by rw [h.1, u1, u2], h.2⟩
    clear hd u1 u2 hfar hS htz
    generalize doS s k a g = t at *
    generalize backK s k a g = k' at *
    generalize backA s k a g = a' at *
    generalize backG s k a g = g' at *
    have heq := run_eql_Edit k' a' g'
    have hnq := run_neq_Edit k' a' g'
    have hne : (t.toList != t.toList) = false := by simp
    have hne2 : (s.toList == s.toList) = true := by simp
    go_wp2_with fail
    refine (CB _).mono ?_
    rintro e w10 ⟨rfl, hb10⟩
    have B10 := below_on B9 hb10 (Nat.le_refl _)
    clear B9 hb10 y y0 y1 y2 CB hgd heq hnq
    go_wp2_with fail
    refine (CF _).mono ?_
    rintro e w11 ⟨rfl, hb11⟩
    have B11 := below_on B10 hb11 (Nat.le_refl _)
    clear B10 hb11 CF
    go_wp2
    go_ret
    exact ⟨rfl, B11⟩
end Go.Proofs.Ytiejfbodcjckeaa
