/- Contracts of GramOk, the program's and the model's. -/
import Derived.Test.YtiejfbodcjckeaaGrow
namespace Go.Proofs.Ytiejfbodcjckeaa
open Go.ChangeShapes Go.WideShapes Go.ChangeAt Go.RowKit
def goodB (rs : List RuleT) (i : Nat) : Bool := match rs[i]? with
  | some r => ruleOkB r && !decide (0 ≤ idxR (rs.take i) r)
  | none => true
def gramOkB (st : ByteArray) (rs : List RuleT) : Bool := isBigS st && (decide (rs.length ≤ 8) && (List.range rs.length).all (goodB rs))
theorem goodB_at {rs : List RuleT} {i : Nat} (h : i < rs.length) : goodB rs i = (ruleOkB rs[i] && !decide (0 ≤ idxR (rs.take i) rs[i])) := by
  unfold goodB; rw [List.getElem?_eq_getElem h]
theorem gramOk_bad {st : ByteArray} {rs : List RuleT} {i : Nat} (h : i < rs.length) (hb : goodB rs i = false) : gramOkB st rs = false := by
  unfold gramOkB
  cases hh : (List.range rs.length).all (goodB rs) with
  | false => simp
  | true =>
    rw [List.all_eq_true] at hh
    have := hh i (by simpa using h)
    rw [hb] at this; cases this
theorem gramOk_all {st : ByteArray} {rs : List RuleT} (h1 : isBigS st = true) (h2 : rs.length ≤ 8) (h3 : ∀ i, i < rs.length → goodB rs i = true) : gramOkB st rs = true := by
  unfold gramOkB
  rw [h1, List.all_eq_true.2 (fun i hi => h3 i (by simpa using hi))]
  simpa using h2

end Go.Proofs.Ytiejfbodcjckeaa
