/- Sums of the sizes of the first kids. (split off SizB) -/
import Derived.Test.YtpkejcjjbkgomaaDoorTreF
namespace Go.Proofs.YtpkejcjjbkgomaaDoor
open Go.ChangeShapes Go.WideShapes Go.ChangeAt Go.RowKit Go.Deep
set_option maxRecDepth 100000
def szTo (ks : List Tr) (i : Nat) : Nat := ((ks.take i).map Tr.sz).sum
theorem szTo_succ {ks : List Tr} {i : Nat} (h : i < ks.length) : szTo ks (i + 1) = szTo ks i + ks[i].sz := by
  unfold szTo
  rw [List.take_succ_eq_append_getElem h, List.map_append, List.sum_append]
  simp
theorem sum_take_le (l : List Nat) : ∀ i, (l.take i).sum ≤ l.sum := fun i => by
  have : l.sum = (l.take i).sum + (l.drop i).sum := by rw [← List.sum_append, List.take_append_drop]
  omega
theorem szTo_le {ks : List Tr} (i : Nat) : szTo ks i ≤ (ks.map Tr.sz).sum := by
  unfold szTo
  rw [List.map_take]
  exact sum_take_le _ i
end Go.Proofs.YtpkejcjjbkgomaaDoor
