/- The law's eqTree at two copies of one tree; how many nodes a tree has, so deep at most. -/
import Derived.Test.YtpkejcjjbkgomaaGreatDoorTreB
import Derived.Test.YtpkejcjjbkgomaaGreatDoorGrow
namespace Go.Proofs.YtpkejcjjbkgomaaGreatDoor
open Go.ChangeShapes Go.WideShapes Go.ChangeAt Go.RowKit Go.Deep
set_option maxRecDepth 100000
/-- how many nodes a tree has, so deep at most -/
def manyD : Nat → Tr → Nat
  | 0, _ => 1
  | d + 1, .node _ _ ks => 1 + (ks.map (manyD d)).sum
def manyTo (d : Nat) (ks : List Tr) (i : Nat) : Nat := ((ks.take i).map (manyD d)).sum
theorem manyTo_succ {d : Nat} {ks : List Tr} {i : Nat} (h : i < ks.length) : manyTo d ks (i + 1) = manyTo d ks i + manyD d ks[i] := by
  unfold manyTo
  rw [List.take_succ_eq_append_getElem h, List.map_append, List.sum_append]
  simp
theorem sum_le {ks : List Tr} {f : Tr → Nat} (h : ∀ k ∈ ks, f k ≤ 1 + k.wt) : (ks.map f).sum ≤ ks.length + (ks.map Tr.wt).sum := by
  induction ks with
  | nil => simp
  | cons x xs ih =>
    have h1 := h x (by simp)
    have h2 := ih (fun k hk => h k (List.mem_cons_of_mem _ hk))
    simp only [List.map_cons, List.sum_cons, List.length_cons]
    omega
theorem many_le : ∀ (d : Nat) (T : Tr), manyD d T ≤ 1 + T.wt
  | 0, _ => by unfold manyD; omega
  | d + 1, .node s r ks => by
    have := sum_le (ks := ks) (fun k _ => many_le d k)
    rw [manyD, Tr.wt]
    omega
theorem manyTo_le {d : Nat} {ks : List Tr} : ∀ i, manyTo d ks i ≤ (ks.map (manyD d)).sum := fun i => by
  unfold manyTo
  conv => rhs; rw [← List.take_append_drop i ks, List.map_append, List.sum_append]
  omega
end Go.Proofs.YtpkejcjjbkgomaaGreatDoor
