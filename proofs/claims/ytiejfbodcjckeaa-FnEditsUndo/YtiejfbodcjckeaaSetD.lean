/- The contract of a set's text. -/
import Derived.Test.YtiejfbodcjckeaaSetC
namespace Go.Proofs.Ytiejfbodcjckeaa
open Go.ChangeShapes Go.WideShapes Go.ChangeAt Go.RowKit
set_option maxRecDepth 100000
def textK (m k : Nat) : List UInt8 := (ordL.take k).filter (hasN m)
theorem textK_yes {m k : Nat} (hk : k < 10) (h : hasN m (ordL[k]'hk) = true) : textK m (k + 1) = textK m k ++ [ordL[k]'hk] := by
  unfold textK; rw [List.take_succ_eq_append_getElem hk, List.filter_append]; simp [h]
theorem textK_no {m k : Nat} (hk : k < 10) (h : hasN m (ordL[k]'hk) = false) : textK m (k + 1) = textK m k := by
  unfold textK; rw [List.take_succ_eq_append_getElem hk, List.filter_append]; simp [h]
theorem textK_len (m k : Nat) : (textK m k).length ≤ 10 := Nat.le_trans (List.length_filter_le _ _) (by simp [ordL]; omega)
theorem cut_ord : ∀ k : Fin 10, ordB.extract k.val (k.val + 1) = bytesOf [ordL[k.val]'k.isLt] := by decide +kernel
end Go.Proofs.Ytiejfbodcjckeaa
