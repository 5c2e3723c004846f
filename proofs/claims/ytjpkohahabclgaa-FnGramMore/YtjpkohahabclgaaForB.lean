/- The contract of the model's GramFor. -/
import Derived.Test.YtjpkohahabclgaaForA
namespace Go.Proofs.Ytjpkohahabclgaa
open Go.ChangeShapes Go.WideShapes Go.ChangeAt Go.RowKit
set_option maxRecDepth 100000
/-- the places that GramFor tells -/
def forL (st : ByteArray) (rs : List RuleT) (left : ByteArray) : List Int := if gramOkB st rs = true then forTo rs left rs.length else []
theorem sGramFor_any (st left : ByteArray) (a : Option Addr) (cap : Nat) (rs : List RuleT) (w : World) (H : RulesAt w a rs) (hcap : rs.length ≤ cap) :
    Calls Try.prog 20 #[.agg #[.string st, .slice a rs.length cap], .string left] w fun e w' => ∃ v, e = .returned v ∧ OwnZ w' w.heap.size v (forL st rs left) ∧ Below w.heap.size w w' := by
  have hA : BoxG (w.alloc (.cells #[.string st, .slice a rs.length cap] 24)) w.heap.size (.string st) (.slice a rs.length cap) := blk_new _ _ rfl
  have hbA := (Below.refl w.heap.size w).alloc (Nat.le_refl _) (.cells #[.string st, .slice a rs.length cap] 24)
  go_enter Try.func20, Try.ntmps20
  go_wp2_with fail
  refine (sGramOk_any _ _ _ rs _ (H.below hbA (Nat.le_refl _)) hcap).mono ?_
  rintro e w2 ⟨rfl, hb2⟩
  have hB2 : Below w.heap.size w w2 := hbA.trans (hb2.mono (by simp))
  have hA2 := hA.below hb2
  obtain ⟨a0, a1, _, _⟩ := hA2.cells
  clear hA hbA hb2
  cases hok : gramOkB st rs with
  | false =>
    go_wp2
    go_ret
    refine ⟨_, rfl, ?_, hB2.alloc hB2.size _⟩
    unfold forL
    rw [hok]
    exact ⟨⟨_, _, rfl⟩, rfl, .inr ⟨w2.heap.size, 0, #[], rfl, hB2.size, blk_new _ _ rfl, Nat.le_refl _, Nat.zero_le _, rfl, rfl⟩⟩
  | true =>
    have hl := (gramOk_facts hok).2.1
    go_wp2_with fail
    refine (l1For_any st left a cap rs w2 (H.below hB2 (Nat.le_refl _)) (by omega)).mono ?_
    rintro e w3 ⟨v, rfl, hown, hb3⟩
    obtain ⟨g, cp, rfl⟩ := hown.1
    go_wp2
    go_ret
    refine ⟨_, rfl, ?_, hB2.trans (hb3.mono hB2.size)⟩
    unfold forL
    rw [if_pos hok]
    exact hown.mono hB2.size
end Go.Proofs.Ytjpkohahabclgaa
