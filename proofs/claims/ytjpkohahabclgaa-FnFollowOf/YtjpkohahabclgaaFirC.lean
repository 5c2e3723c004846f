/- Equality of five sets. -/
import Derived.Test.YtjpkohahabclgaaFirB
namespace Go.Proofs.Ytjpkohahabclgaa
open Go.ChangeShapes Go.WideShapes Go.ChangeAt Go.RowKit
set_option maxRecDepth 100000
def eq5 (v u : V5) : Bool := ((v.a : Int) == (u.a : Int)) && (((v.b : Int) == (u.b : Int)) && (((v.c : Int) == (u.c : Int)) && (((v.d : Int) == (u.d : Int)) && ((v.e : Int) == (u.e : Int)))))
theorem eq5_iff (v u : V5) : eq5 v u = true ↔ v = u := by
  unfold eq5
  simp only [Bool.and_eq_true, beq_iff_eq]
  constructor
  · rintro ⟨h1, h2, h3, h4, h5⟩
    exact V5.ext (by omega) (by omega) (by omega) (by omega) (by omega)
  · rintro rfl; simp
theorem equalIn_five (d : Nat) (v u : V5) (w : World) : (Op.equalIn (d + 2) 77 (.agg v.cells.toArray) (.agg u.cells.toArray)).run Try.prog w = .ok (eq5 v u) w := by
  obtain ⟨a1, a2, a3, a4, a5⟩ := v
  obtain ⟨b1, b2, b3, b4, b5⟩ := u
  have u1 := Try.underlying77
  have u2 := Try.underlying75
  have z3 := Try.sizeOf75
  have ag := Try.isAgg75
  rw [show d + 2 = (d + 1) + 1 from rfl, Op.equalIn]
  simp only [Sem.run_bind, run_underlying u1, Result.andThen_ok, V5.cells]
  simp only [z3, Result.andThen_ok, Std.Legacy.Range.forIn_eq_forIn_range', Std.Legacy.Range.size, Nat.sub_zero, Nat.div_one, List.range'_succ, List.range'_zero, List.forIn_cons, List.forIn_nil, Nat.mul_one, Nat.reduceAdd]
  go_simp
  by_cases h1 : (a1 : Int) = b1 <;> by_cases h2 : (a2 : Int) = b2 <;> by_cases h3 : (a3 : Int) = b3 <;> by_cases h4 : (a4 : Int) = b4 <;> by_cases h5 : (a5 : Int) = b5 <;> simp [eq5, h1, h2, h3, h4, h5]
theorem run_eql_five (v u : V5) (w : World) : Sem.run Try.prog (binOp .eql 77 (.agg v.cells.toArray) (.agg u.cells.toArray)) w = .ok (.bool (eq5 v u)) w := by
  rw [run_eql_struct, show (10000 : Nat) = 9998 + 2 from rfl, equalIn_five]; rfl
theorem eqGuard_five (op : BinOp) (x y : Operand) (xs ys : Array Value) (w : World) : (eqGuard op 77 x y (.agg xs) (.agg ys)).run Try.prog w = .ok () w :=
  run_eqGuard_agg w op 77 x y xs ys (by kernel_rfl)
theorem run_eql_first (n : Nat) (v u : V5) (w : World) : Sem.run Try.prog (binOp .eql 104 (.agg (firstCells n v)) (.agg (firstCells n u))) w = .ok (.bool (eq5 v u)) w := by
  have u1 := Try.underlying75
  have a1 := Try.isAgg75
  have z1 := Try.sizeOf75
  have a2 := Try.isAgg77
  have z2 := Try.sizeOf77
  have hS : Try.prog.underlying 104 = some (.struct (Try.prog.fieldsOf 104)) := by kernel_rfl
  have hp : Try.prog.stoodInHeld 104 = false := by kernel_rfl
  have h5 := equalIn_five 9997 v u
  obtain ⟨v1, v2, v3, v4, v5⟩ := v
  obtain ⟨t1, t2, t3, t4, t5⟩ := u
  simp only [V5.cells] at h5
  rw [run_eql_struct, show (10000 : Nat) = 9999 + 1 from rfl, run_equalIn_agg w 9999 104 _ _ hS hp]
  simp only [Program.fieldsOf, Try.underlying104, firstCells]
  go_simp
  cases eq5 ⟨v1, v2, v3, v4, v5⟩ ⟨t1, t2, t3, t4, t5⟩ <;> simp
theorem eqGuard_first (op : BinOp) (x y : Operand) (xs ys : Array Value) (w : World) : (eqGuard op 104 x y (.agg xs) (.agg ys)).run Try.prog w = .ok () w :=
  run_eqGuard_agg w op 104 x y xs ys (by kernel_rfl)
end Go.Proofs.Ytjpkohahabclgaa
