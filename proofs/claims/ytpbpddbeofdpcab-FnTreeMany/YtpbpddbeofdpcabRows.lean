/-
  No cell of these rows narrows 'for every input' (looked for: loops, veiled, ifaces, maps, wideKeys, modest, calm, conditions, laid).
  DERIVED. THE GIVEN ROWS OF THIS SEAT. 4 by the template 'for every input the law returns true; each argument reads behind the call as it read before'; 0 by the template 'total and deterministic' (their statements: YtpbpddbeofdpcabTotals.lean).
  GIVEN WITH THE SEED: the statements are not yours to turn. If you find one false, say at which input.
  Laid BY PROGRAM, IN A SANDBOX (cutbox-rows.mjs): the forced cells as the released guide's own fill.sh prints them over the translation 44f2bf0626e506ba… (all of the seat's roots in one cut). By AI agents, Wed Nov 11 2026. No macro, syntax, notation, axiom, sorry.
-/
import Derived.Test.YtpbpddbeofdpcabChecked
import GoSem.Claim
import GoSem.ClaimJoined
import GoSem.ClaimMapViews
import Derived.JoinedTies
import Derived.KernelRfl
namespace Go.Proofs.Ytpbpddbeofdpcab
/- THE CELL 'sum', in the pinned program and in every row, IS THE sha256 OF THE DUMP (.gsa) THAT YtpbpddbeofdpcabProg.lean LOADS. Nothing in Lean hashes anything: it is a label: what it is worth is what the hold of that sum in a sandbox is worth. -/
noncomputable def Try.pinned : Pinned := { name := "ytpbpddbeofdpcab", sum := "44f2bf0626e506ba34383a80e2d4538cf9e83a70fc67ab5876447018d008b422", checked := Try.checked }
namespace Rows
def none {H : Type} : Left H := { results := [], args := [] }

/-- 'laws.FnTreeMany': WHATEVER THE INPUT: true; the input reads as it did. -/
def fnTreeManySpec : ChangeSpec := { name := "fnTreeMany", fn := fun _ => fun
  | [d] => { results := [.lit (.bool true)], args := [d] }
  | _ => none }
def fnTreeManyRow : OpenClaim := { program := "ytpbpddbeofdpcab", sum := "44f2bf0626e506ba34383a80e2d4538cf9e83a70fc67ab5876447018d008b422", func := "loop.example/construer/laws.FnTreeMany", spec := "fnTreeMany", inPlace := ["internal/abi.NoEscape"], unfollowed := true, recurses := true, apart := false }
def FnTreeManySaid : Prop := fnTreeManyRow.holds Try.pinned (OpenSpec.ofChange fnTreeManySpec)

/-- ITS FALSE NEIGHBOUR: 'it returns false'. Refute it at one input. -/
def fnTreeManyWrong : ChangeSpec := { name := "fnTreeMany", fn := fun _ => fun
  | [d] => { results := [.lit (.bool false)], args := [d] }
  | _ => none }
def FnTreeManyWrongFalsely : Prop := fnTreeManyRow.holds Try.pinned (OpenSpec.ofChange fnTreeManyWrong)

/-- 'laws.FnExactTreeFrom': WHATEVER THE INPUT: true; the input reads as it did. -/
def fnExactTreeFromSpec : ChangeSpec := { name := "fnExactTreeFrom", fn := fun _ => fun
  | [d1, d2] => { results := [.lit (.bool true)], args := [d1, d2] }
  | _ => none }
def fnExactTreeFromRow : OpenClaim := { program := "ytpbpddbeofdpcab", sum := "44f2bf0626e506ba34383a80e2d4538cf9e83a70fc67ab5876447018d008b422", func := "loop.example/construer/laws.FnExactTreeFrom", spec := "fnExactTreeFrom", unfollowed := true, recurses := true, apart := false }
def FnExactTreeFromSaid : Prop := fnExactTreeFromRow.holds Try.pinned (OpenSpec.ofChange fnExactTreeFromSpec)

/-- ITS FALSE NEIGHBOUR: 'it returns false'. Refute it at one input. -/
def fnExactTreeFromWrong : ChangeSpec := { name := "fnExactTreeFrom", fn := fun _ => fun
  | [d1, d2] => { results := [.lit (.bool false)], args := [d1, d2] }
  | _ => none }
def FnExactTreeFromWrongFalsely : Prop := fnExactTreeFromRow.holds Try.pinned (OpenSpec.ofChange fnExactTreeFromWrong)

/-- 'laws.FnTreePart': WHATEVER THE INPUT: true; the input reads as it did. -/
def fnTreePartSpec : ChangeSpec := { name := "fnTreePart", fn := fun _ => fun
  | [d] => { results := [.lit (.bool true)], args := [d] }
  | _ => none }
def fnTreePartRow : OpenClaim := { program := "ytpbpddbeofdpcab", sum := "44f2bf0626e506ba34383a80e2d4538cf9e83a70fc67ab5876447018d008b422", func := "loop.example/construer/laws.FnTreePart", spec := "fnTreePart", unfollowed := true, recurses := true, apart := false }
def FnTreePartSaid : Prop := fnTreePartRow.holds Try.pinned (OpenSpec.ofChange fnTreePartSpec)

/-- ITS FALSE NEIGHBOUR: 'it returns false'. Refute it at one input. -/
def fnTreePartWrong : ChangeSpec := { name := "fnTreePart", fn := fun _ => fun
  | [d] => { results := [.lit (.bool false)], args := [d] }
  | _ => none }
def FnTreePartWrongFalsely : Prop := fnTreePartRow.holds Try.pinned (OpenSpec.ofChange fnTreePartWrong)

/-- 'laws.FnTreeYield': WHATEVER THE INPUT: true; the input reads as it did. -/
def fnTreeYieldSpec : ChangeSpec := { name := "fnTreeYield", fn := fun _ => fun
  | [d] => { results := [.lit (.bool true)], args := [d] }
  | _ => none }
def fnTreeYieldRow : OpenClaim := { program := "ytpbpddbeofdpcab", sum := "44f2bf0626e506ba34383a80e2d4538cf9e83a70fc67ab5876447018d008b422", func := "loop.example/construer/laws.FnTreeYield", spec := "fnTreeYield", inPlace := ["internal/abi.NoEscape"], unfollowed := true, recurses := true, apart := false }
def FnTreeYieldSaid : Prop := fnTreeYieldRow.holds Try.pinned (OpenSpec.ofChange fnTreeYieldSpec)

/-- ITS FALSE NEIGHBOUR: 'it returns false'. Refute it at one input. -/
def fnTreeYieldWrong : ChangeSpec := { name := "fnTreeYield", fn := fun _ => fun
  | [d] => { results := [.lit (.bool false)], args := [d] }
  | _ => none }
def FnTreeYieldWrongFalsely : Prop := fnTreeYieldRow.holds Try.pinned (OpenSpec.ofChange fnTreeYieldWrong)

/- THE SECOND FORM. 'bulk': how many values and letters a reading holds, each counted each time it is reached (what is shared counts as often as it is met; a slice's spare places count too). A statement '..UptoSaid' is the law's where the arguments, and the package variables that the reading takes, are together of bulk at most 1048576: NARROWER than '..Said'. Prove '..Said' where nothing that the law and all that it calls make is longer than what came in: it says more and counts as full. Else prove '..UptoSaid'. A law counts once. -/
mutual
def uptoBulk {H : Type} : DataW H → Nat
  | .lit (.string bytes) => bytes.length + 1
  | .lit _ => 1
  | .nil => 1
  | .ptr d => uptoBulk d + 1
  | .slice elems spare => uptoBulkAll elems + uptoBulkAll spare + 1
  | .agg parts => uptoBulkAll parts + 1
  | .iface _ d => uptoBulk d + 1
  | .map entries => uptoBulkEntries entries + 1
  | .held _ => 1
def uptoBulkAll {H : Type} : List (DataW H) → Nat
  | [] => 0
  | d :: r => uptoBulk d + uptoBulkAll r
def uptoBulkEntries {H : Type} : List (Lit × DataW H) → Nat
  | [] => 0
  | x :: r => uptoBulkEntry x + uptoBulkEntries r
def uptoBulkEntry {H : Type} : Lit × DataW H → Nat
  | (.string bytes, d) => bytes.length + uptoBulk d + 1
  | (_, d) => uptoBulk d + 1
 end
def uptoSmall : (H : Type) → List (DataW H) → Bool := fun _ ds => decide (uptoBulkAll ds ≤ 1048576)
def OpenSpec.upto (s : _root_.Go.ChangeSpec) : _root_.Go.OpenSpec := { _root_.Go.OpenSpec.ofChange s with cond := some uptoSmall }

/-- 'laws.FnTreeMany', WHERE WHAT IT READS IS OF BULK AT MOST 1048576: true; the input reads as it did. -/
def fnTreeManyUptoRow : OpenClaim := { program := "ytpbpddbeofdpcab", sum := "44f2bf0626e506ba34383a80e2d4538cf9e83a70fc67ab5876447018d008b422", func := "loop.example/construer/laws.FnTreeMany", spec := "fnTreeMany", inPlace := ["internal/abi.NoEscape"], unfollowed := true, recurses := true, apart := false, narrowed := true }
def FnTreeManyUptoSaid : Prop := fnTreeManyUptoRow.holds Try.pinned (OpenSpec.upto fnTreeManySpec)

/-- 'laws.FnExactTreeFrom', WHERE WHAT IT READS IS OF BULK AT MOST 1048576: true; the input reads as it did. -/
def fnExactTreeFromUptoRow : OpenClaim := { program := "ytpbpddbeofdpcab", sum := "44f2bf0626e506ba34383a80e2d4538cf9e83a70fc67ab5876447018d008b422", func := "loop.example/construer/laws.FnExactTreeFrom", spec := "fnExactTreeFrom", unfollowed := true, recurses := true, apart := false, narrowed := true }
def FnExactTreeFromUptoSaid : Prop := fnExactTreeFromUptoRow.holds Try.pinned (OpenSpec.upto fnExactTreeFromSpec)

/-- 'laws.FnTreePart', WHERE WHAT IT READS IS OF BULK AT MOST 1048576: true; the input reads as it did. -/
def fnTreePartUptoRow : OpenClaim := { program := "ytpbpddbeofdpcab", sum := "44f2bf0626e506ba34383a80e2d4538cf9e83a70fc67ab5876447018d008b422", func := "loop.example/construer/laws.FnTreePart", spec := "fnTreePart", unfollowed := true, recurses := true, apart := false, narrowed := true }
def FnTreePartUptoSaid : Prop := fnTreePartUptoRow.holds Try.pinned (OpenSpec.upto fnTreePartSpec)

/-- 'laws.FnTreeYield', WHERE WHAT IT READS IS OF BULK AT MOST 1048576: true; the input reads as it did. -/
def fnTreeYieldUptoRow : OpenClaim := { program := "ytpbpddbeofdpcab", sum := "44f2bf0626e506ba34383a80e2d4538cf9e83a70fc67ab5876447018d008b422", func := "loop.example/construer/laws.FnTreeYield", spec := "fnTreeYield", inPlace := ["internal/abi.NoEscape"], unfollowed := true, recurses := true, apart := false, narrowed := true }
def FnTreeYieldUptoSaid : Prop := fnTreeYieldUptoRow.holds Try.pinned (OpenSpec.upto fnTreeYieldSpec)

end Rows
end Go.Proofs.Ytpbpddbeofdpcab
