/- The contract of l1Bent: rules, one in twelve bent. -/
import Derived.Test.YtiejfbodcjckeaaDrawF
import Derived.Deep.DeepCutAuto
import Derived.Deep.LoopGhost
namespace Go.Proofs.Ytiejfbodcjckeaa
open Go.ChangeShapes Go.WideShapes Go.ChangeAt Go.RowKit
theorem RulesAt.alloc {w : World} {a : Option Addr} {rs : List RuleT} (h : RulesAt w a rs) (o : Obj) : RulesAt (w.alloc o) a rs := h.below ((Below.refl _ _).alloc (Nat.le_refl _) _) (Nat.le_refl _)
theorem small_snoc {rs : List RuleT} (h : SmallR rs) {l r : ByteArray} (h1 : l.size ≤ 5) (h2 : r.size ≤ 5) : SmallR (rs ++ [(l, r)]) := by
  intro x hx
  rcases List.mem_append.1 hx with hx | hx
  · exact h x hx
  · obtain rfl : x = (l, r) := by simpa using hx
    exact ⟨h1, h2⟩
theorem Rdk.drew {w : World} {R k : Nat} (h : Rdk w R k) : Rdk w.drew R k := h
theorem Only.drew {R : Nat} {w w' : World} (h : Only R w w') : Only R w w'.drew := ⟨h.os, h.tape, h.output, h.size, h.block⟩
theorem RulesAt.drew2 {w : World} {a : Option Addr} {rs : List RuleT} (h : RulesAt w a rs) : RulesAt w.drew a rs := h
theorem small_set {rs : List RuleT} (h : SmallR rs) (j : Nat) (x : RuleT) (h1 : x.1.size ≤ 5) (h2 : x.2.size ≤ 5) : SmallR (rs.set j x) := by
  intro r hr
  rcases List.mem_or_eq_of_mem_set hr with hr | rfl
  · exact h r hr
  · exact ⟨h1, h2⟩
end Go.Proofs.Ytiejfbodcjckeaa
