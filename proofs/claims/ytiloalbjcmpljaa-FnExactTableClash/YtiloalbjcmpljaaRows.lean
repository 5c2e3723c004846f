/-
  No cell of these rows narrows 'for every input' (looked for: loops, veiled, ifaces, maps, wideKeys, modest, calm, conditions, laid).
  DERIVED. THE GIVEN ROWS OF THIS SEAT. 5 by the template 'for every input the law returns true; each argument reads behind the call as it read before'; 0 by the template 'total and deterministic' (their statements: YtiloalbjcmpljaaTotals.lean).
  GIVEN WITH THE SEED: the statements are not yours to turn. If you find one false, say at which input.
  Laid BY PROGRAM, IN A SANDBOX (cutbox-rows.mjs): the forced cells as the released guide's own fill.sh prints them over the translation 12f8c94afb4416ae… (all of the seat's roots in one cut). By AI agents, Wed Nov 11 2026. No macro, syntax, notation, axiom, sorry.
-/
import Derived.Test.YtiloalbjcmpljaaChecked
import GoSem.Claim
import GoSem.ClaimJoined
import GoSem.ClaimMapViews
import Derived.JoinedTies
import Derived.KernelRfl
namespace Go.Proofs.Ytiloalbjcmpljaa
/- THE CELL 'sum', in the pinned program and in every row, IS THE sha256 OF THE DUMP (.gsa) THAT YtiloalbjcmpljaaProg.lean LOADS. Nothing in Lean hashes anything: it is a label: what it is worth is what the hold of that sum in a sandbox is worth. -/
noncomputable def Try.pinned : Pinned := { name := "ytiloalbjcmpljaa", sum := "12f8c94afb4416ae36f2e45add6023ca429cb747ba5c5d884146f4528f19a633", checked := Try.checked }
namespace Rows
def none {H : Type} : Left H := { results := [], args := [] }

/-- 'laws.FnExactTableOk': WHATEVER THE INPUT: true; the input reads as it did. -/
def fnExactTableOkSpec : ChangeSpec := { name := "fnExactTableOk", fn := fun _ => fun
  | [d1, d2] => { results := [.lit (.bool true)], args := [d1, d2] }
  | _ => none }
def fnExactTableOkRow : OpenClaim := { program := "ytiloalbjcmpljaa", sum := "12f8c94afb4416ae36f2e45add6023ca429cb747ba5c5d884146f4528f19a633", func := "loop.example/construer/laws.FnExactTableOk", spec := "fnExactTableOk", plainKeys := false, apart := false }
def FnExactTableOkSaid : Prop := fnExactTableOkRow.holds Try.pinned (OpenSpec.ofChange fnExactTableOkSpec)

/-- ITS FALSE NEIGHBOUR: 'it returns false'. Refute it at one input. -/
def fnExactTableOkWrong : ChangeSpec := { name := "fnExactTableOk", fn := fun _ => fun
  | [d1, d2] => { results := [.lit (.bool false)], args := [d1, d2] }
  | _ => none }
def FnExactTableOkWrongFalsely : Prop := fnExactTableOkRow.holds Try.pinned (OpenSpec.ofChange fnExactTableOkWrong)

/-- 'laws.FnExactTableGo': WHATEVER THE INPUT: true; the input reads as it did. -/
def fnExactTableGoSpec : ChangeSpec := { name := "fnExactTableGo", fn := fun _ => fun
  | [d1, d2, d3] => { results := [.lit (.bool true)], args := [d1, d2, d3] }
  | _ => none }
def fnExactTableGoRow : OpenClaim := { program := "ytiloalbjcmpljaa", sum := "12f8c94afb4416ae36f2e45add6023ca429cb747ba5c5d884146f4528f19a633", func := "loop.example/construer/laws.FnExactTableGo", spec := "fnExactTableGo", unfollowed := true, recurses := true, plainKeys := false, apart := false }
def FnExactTableGoSaid : Prop := fnExactTableGoRow.holds Try.pinned (OpenSpec.ofChange fnExactTableGoSpec)

/-- ITS FALSE NEIGHBOUR: 'it returns false'. Refute it at one input. -/
def fnExactTableGoWrong : ChangeSpec := { name := "fnExactTableGo", fn := fun _ => fun
  | [d1, d2, d3] => { results := [.lit (.bool false)], args := [d1, d2, d3] }
  | _ => none }
def FnExactTableGoWrongFalsely : Prop := fnExactTableGoRow.holds Try.pinned (OpenSpec.ofChange fnExactTableGoWrong)

/-- 'laws.FnExactTableEnd': WHATEVER THE INPUT: true; the input reads as it did. -/
def fnExactTableEndSpec : ChangeSpec := { name := "fnExactTableEnd", fn := fun _ => fun
  | [d1, d2, d3] => { results := [.lit (.bool true)], args := [d1, d2, d3] }
  | _ => none }
def fnExactTableEndRow : OpenClaim := { program := "ytiloalbjcmpljaa", sum := "12f8c94afb4416ae36f2e45add6023ca429cb747ba5c5d884146f4528f19a633", func := "loop.example/construer/laws.FnExactTableEnd", spec := "fnExactTableEnd", unfollowed := true, recurses := true, plainKeys := false, apart := false }
def FnExactTableEndSaid : Prop := fnExactTableEndRow.holds Try.pinned (OpenSpec.ofChange fnExactTableEndSpec)

/-- ITS FALSE NEIGHBOUR: 'it returns false'. Refute it at one input. -/
def fnExactTableEndWrong : ChangeSpec := { name := "fnExactTableEnd", fn := fun _ => fun
  | [d1, d2, d3] => { results := [.lit (.bool false)], args := [d1, d2, d3] }
  | _ => none }
def FnExactTableEndWrongFalsely : Prop := fnExactTableEndRow.holds Try.pinned (OpenSpec.ofChange fnExactTableEndWrong)

/-- 'laws.FnExactTableClash': WHATEVER THE INPUT: true; the input reads as it did. -/
def fnExactTableClashSpec : ChangeSpec := { name := "fnExactTableClash", fn := fun _ => fun
  | [d] => { results := [.lit (.bool true)], args := [d] }
  | _ => none }
def fnExactTableClashRow : OpenClaim := { program := "ytiloalbjcmpljaa", sum := "12f8c94afb4416ae36f2e45add6023ca429cb747ba5c5d884146f4528f19a633", func := "loop.example/construer/laws.FnExactTableClash", spec := "fnExactTableClash", unfollowed := true, recurses := true, plainKeys := false, apart := false }
def FnExactTableClashSaid : Prop := fnExactTableClashRow.holds Try.pinned (OpenSpec.ofChange fnExactTableClashSpec)

/-- ITS FALSE NEIGHBOUR: 'it returns false'. Refute it at one input. -/
def fnExactTableClashWrong : ChangeSpec := { name := "fnExactTableClash", fn := fun _ => fun
  | [d] => { results := [.lit (.bool false)], args := [d] }
  | _ => none }
def FnExactTableClashWrongFalsely : Prop := fnExactTableClashRow.holds Try.pinned (OpenSpec.ofChange fnExactTableClashWrong)

/-- 'laws.FnExactTableSame': WHATEVER THE INPUT: true; the input reads as it did. -/
def fnExactTableSameSpec : ChangeSpec := { name := "fnExactTableSame", fn := fun _ => fun
  | [d1, d2] => { results := [.lit (.bool true)], args := [d1, d2] }
  | _ => none }
def fnExactTableSameRow : OpenClaim := { program := "ytiloalbjcmpljaa", sum := "12f8c94afb4416ae36f2e45add6023ca429cb747ba5c5d884146f4528f19a633", func := "loop.example/construer/laws.FnExactTableSame", spec := "fnExactTableSame", plainKeys := false, apart := false }
def FnExactTableSameSaid : Prop := fnExactTableSameRow.holds Try.pinned (OpenSpec.ofChange fnExactTableSameSpec)

/-- ITS FALSE NEIGHBOUR: 'it returns false'. Refute it at one input. -/
def fnExactTableSameWrong : ChangeSpec := { name := "fnExactTableSame", fn := fun _ => fun
  | [d1, d2] => { results := [.lit (.bool false)], args := [d1, d2] }
  | _ => none }
def FnExactTableSameWrongFalsely : Prop := fnExactTableSameRow.holds Try.pinned (OpenSpec.ofChange fnExactTableSameWrong)

/- THE SECOND FORM. 'bulk': how many values and letters a reading holds, each counted each time it is reached (what is shared counts as often as it is met; a slice's spare places count too). A statement '..UptoSaid' is the law's where the arguments, and the package variables that the reading takes, are together of bulk at most 1048576: NARROWER than '..Said'. Prove '..Said' where nothing that the law and all that it calls make is longer than what came in: it says more and counts as full. Else prove '..UptoSaid'. A law counts once. -/
mutual
def uptoBulk {H : Type} : DataW H → Nat
  | .lit (.string bytes) => bytes.length + 1
  | .lit _ => 1
  | .nil => 1
  | .ptr d => uptoBulk d + 1
  | .slice elems spare => uptoBulkAll elems + uptoBulkAll spare + 1
  | .agg parts => uptoBulkAll parts + 1
  | .iface _ d => uptoBulk d + 1
  | .map entries => uptoBulkEntries entries + 1
  | .held _ => 1
def uptoBulkAll {H : Type} : List (DataW H) → Nat
  | [] => 0
  | d :: r => uptoBulk d + uptoBulkAll r
def uptoBulkEntries {H : Type} : List (Lit × DataW H) → Nat
  | [] => 0
  | x :: r => uptoBulkEntry x + uptoBulkEntries r
def uptoBulkEntry {H : Type} : Lit × DataW H → Nat
  | (.string bytes, d) => bytes.length + uptoBulk d + 1
  | (_, d) => uptoBulk d + 1
 end
def uptoSmall : (H : Type) → List (DataW H) → Bool := fun _ ds => decide (uptoBulkAll ds ≤ 1048576)
def OpenSpec.upto (s : _root_.Go.ChangeSpec) : _root_.Go.OpenSpec := { _root_.Go.OpenSpec.ofChange s with cond := some uptoSmall }

/-- 'laws.FnExactTableOk', WHERE WHAT IT READS IS OF BULK AT MOST 1048576: true; the input reads as it did. -/
def fnExactTableOkUptoRow : OpenClaim := { program := "ytiloalbjcmpljaa", sum := "12f8c94afb4416ae36f2e45add6023ca429cb747ba5c5d884146f4528f19a633", func := "loop.example/construer/laws.FnExactTableOk", spec := "fnExactTableOk", plainKeys := false, apart := false, narrowed := true }
def FnExactTableOkUptoSaid : Prop := fnExactTableOkUptoRow.holds Try.pinned (OpenSpec.upto fnExactTableOkSpec)

/-- 'laws.FnExactTableGo', WHERE WHAT IT READS IS OF BULK AT MOST 1048576: true; the input reads as it did. -/
def fnExactTableGoUptoRow : OpenClaim := { program := "ytiloalbjcmpljaa", sum := "12f8c94afb4416ae36f2e45add6023ca429cb747ba5c5d884146f4528f19a633", func := "loop.example/construer/laws.FnExactTableGo", spec := "fnExactTableGo", unfollowed := true, recurses := true, plainKeys := false, apart := false, narrowed := true }
def FnExactTableGoUptoSaid : Prop := fnExactTableGoUptoRow.holds Try.pinned (OpenSpec.upto fnExactTableGoSpec)

/-- 'laws.FnExactTableEnd', WHERE WHAT IT READS IS OF BULK AT MOST 1048576: true; the input reads as it did. -/
def fnExactTableEndUptoRow : OpenClaim := { program := "ytiloalbjcmpljaa", sum := "12f8c94afb4416ae36f2e45add6023ca429cb747ba5c5d884146f4528f19a633", func := "loop.example/construer/laws.FnExactTableEnd", spec := "fnExactTableEnd", unfollowed := true, recurses := true, plainKeys := false, apart := false, narrowed := true }
def FnExactTableEndUptoSaid : Prop := fnExactTableEndUptoRow.holds Try.pinned (OpenSpec.upto fnExactTableEndSpec)

/-- 'laws.FnExactTableClash', WHERE WHAT IT READS IS OF BULK AT MOST 1048576: true; the input reads as it did. -/
def fnExactTableClashUptoRow : OpenClaim := { program := "ytiloalbjcmpljaa", sum := "12f8c94afb4416ae36f2e45add6023ca429cb747ba5c5d884146f4528f19a633", func := "loop.example/construer/laws.FnExactTableClash", spec := "fnExactTableClash", unfollowed := true, recurses := true, plainKeys := false, apart := false, narrowed := true }
def FnExactTableClashUptoSaid : Prop := fnExactTableClashUptoRow.holds Try.pinned (OpenSpec.upto fnExactTableClashSpec)

/-- 'laws.FnExactTableSame', WHERE WHAT IT READS IS OF BULK AT MOST 1048576: true; the input reads as it did. -/
def fnExactTableSameUptoRow : OpenClaim := { program := "ytiloalbjcmpljaa", sum := "12f8c94afb4416ae36f2e45add6023ca429cb747ba5c5d884146f4528f19a633", func := "loop.example/construer/laws.FnExactTableSame", spec := "fnExactTableSame", plainKeys := false, apart := false, narrowed := true }
def FnExactTableSameUptoSaid : Prop := fnExactTableSameUptoRow.holds Try.pinned (OpenSpec.upto fnExactTableSameSpec)

end Rows
end Go.Proofs.Ytiloalbjcmpljaa
