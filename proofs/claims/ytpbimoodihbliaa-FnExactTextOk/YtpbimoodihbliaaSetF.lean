/- Contracts of GramNone and GramMade of the program. -/
import Derived.Test.YtpbimoodihbliaaSetE
namespace Go.Proofs.Ytpbimoodihbliaa
open Go.ChangeShapes Go.WideShapes Go.ChangeAt Go.RowKit
set_option maxRecDepth 100000
theorem leftsLeast_lt (rs : List RuleT) (g : Nat) : leftsLeast rs g < 1024 := by
  unfold leftsLeast leastN
  have : ∀ (l : List Nat) (acc : Nat), acc < 1024 → l.foldl (fun acc S => if leftsClosedB rs g S then acc &&& S else acc) acc < 1024 := by
    intro l
    induction l with
    | nil => intro acc h; exact h
    | cons S l ih =>
      intro acc h
      refine ih _ ?_
      show (if leftsClosedB rs g S = true then acc &&& S else acc) < 1024
      split
      · exact Nat.lt_of_le_of_lt Nat.and_le_left h
      · exact h
  exact this _ _ (by omega)
def noneL (st : ByteArray) (rs : List RuleT) : List UInt8 := if gramOkB st rs = true then textN (leftsLeast rs 0) else []
def madeL (st : ByteArray) (rs : List RuleT) : List UInt8 := if gramOkB st rs = true then textN (leftsLeast rs 960) else []
theorem nullableSet_any (st : ByteArray) (a : Option Addr) (cap : Nat) (rs : List RuleT) (w : World) (H : RulesAt w a rs) :
    Calls Try.prog 103 #[.agg #[.string st, .slice a rs.length cap]] w fun e w' => e = .returned (.int .u16 (leftsLeast rs 0 : Nat)) ∧ Below w.heap.size w w' := by
  have hbw := (Below.refl w.heap.size w).alloc (Nat.le_refl _) (.cells #[.string st, .slice a rs.length cap] 34)
  go_enter Try.func103, Try.ntmps103
  go_wp2_with fail
  refine (leftsClosed_any st a cap rs 0 _ (H.below hbw (Nat.le_refl _)) (by omega)).mono ?_
  rintro e w2 ⟨rfl, hb2⟩
  go_wp2
  go_ret
  exact ⟨rfl, hbw.trans (hb2.mono (by simp))⟩
end Go.Proofs.Ytpbimoodihbliaa
