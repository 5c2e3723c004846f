/- The contract of the model's TreeOk. -/
import Derived.Test.YtngekjbdjnfhmaaDoorTreE
import Derived.Test.YtngekjbdjnfhmaaDoorOkC
namespace Go.Proofs.YtngekjbdjnfhmaaDoor
open Go.ChangeShapes Go.WideShapes Go.ChangeAt Go.RowKit Go.Deep
set_option maxRecDepth 100000
def treeOkB (st : ByteArray) (rs : List RuleT) (T : Tr) : Bool := gramOkB st rs && (shapeB rs 20 T && decide ((manyD 20 T : Int) ≤ 60))
theorem rights_small {st : ByteArray} {rs : List RuleT} (h : gramOkB st rs = true) : ∀ i (hi : i < rs.length), rs[i].2.size ≤ 100 := by
  intro i hi
  unfold gramOkB at h
  simp only [Bool.and_eq_true, decide_eq_true_eq, List.all_eq_true, List.mem_range] at h
  have h4 := h.2.2 i hi
  rw [goodB_at hi] at h4
  simp [ruleOkB, isBigS] at h4
  have := h4.1.2.1
  omega
end Go.Proofs.YtngekjbdjnfhmaaDoor
