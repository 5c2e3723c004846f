/- The contract of l1Gram: rules are drawn. -/
import Derived.Test.YtiejfbodcjckeaaDrawC
namespace Go.Proofs.Ytiejfbodcjckeaa
open Go.ChangeShapes Go.WideShapes Go.ChangeAt Go.RowKit
theorem SmallR.fits {rs : List RuleT} (h : SmallR rs) (hl : rs.length ≤ 1000) : Fits rs := ⟨by unfold maxLen; omega, fun i hi => by have := h rs[i] (List.getElem_mem hi); unfold maxLen; omega⟩
def DrawnG (R k m : Nat) (w : World) (e : Ending) (w' : World) : Prop := ∃ v st rs, e = .returned v ∧ GramVal w' w.heap.size m v st rs ∧ Rdk w' R k ∧ Only R w w'
end Go.Proofs.Ytiejfbodcjckeaa
