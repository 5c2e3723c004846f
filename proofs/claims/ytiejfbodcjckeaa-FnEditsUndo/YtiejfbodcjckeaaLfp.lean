/- The least fixed point of a growing number: contracts of growing and of leastFixedPoint at sets of symbols. -/
import Derived.Test.YtiejfbodcjckeaaSetD
import Derived.Test.YtiejfbodcjckeaaSeq
import Derived.Test.YtiejfbodcjckeaaOne
namespace Go.Proofs.Ytiejfbodcjckeaa
open Go.ChangeShapes Go.WideShapes Go.ChangeAt Go.RowKit
attribute [local go_sem] Oper.semAt_some
set_option maxRecDepth 100000
def cellN (w : World) (b : Nat) : Nat := match w.cell? ⟨b, 0, none⟩ with
  | some (.int _ v) => v.toNat
  | _ => 0
theorem one1.cellN {w : World} {b : Nat} {x : Nat} {k : IntKind} {T : TypeId} (h : one1 w b (.int k (x : Int)) T) : cellN w b = x := by
  unfold Go.Proofs.Ytiejfbodcjckeaa.cellN; rw [h.cell.1]; simp
end Go.Proofs.Ytiejfbodcjckeaa
