/- Contracts of GramNone and GramMade of the program. -/
import Derived.Test.YtiejfbodcjckeaaSetE
namespace Go.Proofs.Ytiejfbodcjckeaa
open Go.ChangeShapes Go.WideShapes Go.ChangeAt Go.RowKit
set_option maxRecDepth 100000
theorem leftsLeast_lt (rs : List RuleT) (g : Nat) : leftsLeast rs g < 1024 := by
  unfold leftsLeast leastN
  have : ∀ (l : List Nat) (acc : Nat), acc < 1024 → l.foldl (fun acc S => if leftsClosedB rs g S then acc &&& S else acc) acc < 1024 := by
    intro l
    induction l with
    | nil => intro acc h; exact h
    | cons S l ih =>
      intro acc h
      refine ih _ ?_
      show (if leftsClosedB rs g S = true then acc &&& S else acc) < 1024
      split
      · exact Nat.lt_of_le_of_lt Nat.and_le_left h
      · exact h
  exact this _ _ (by omega)
def noneL (st : ByteArray) (rs : List RuleT) : List UInt8 := if gramOkB st rs = true then textN (leftsLeast rs 0) else []
def madeL (st : ByteArray) (rs : List RuleT) : List UInt8 := if gramOkB st rs = true then textN (leftsLeast rs 960) else []
end Go.Proofs.Ytiejfbodcjckeaa
