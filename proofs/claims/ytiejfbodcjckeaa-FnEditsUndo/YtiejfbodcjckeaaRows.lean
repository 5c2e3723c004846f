/-
  No cell of these rows narrows 'for every input' (looked for: loops, veiled, ifaces, maps, wideKeys, modest, calm, conditions, laid).
  DERIVED. THE GIVEN ROWS OF THIS SEAT. 8 by the template 'for every input the law returns true; each argument reads behind the call as it read before'; 0 by the template 'total and deterministic' (their statements: YtiejfbodcjckeaaTotals.lean).
  GIVEN WITH THE SEED: the statements are not yours to turn. If you find one false, say at which input.
  Laid BY PROGRAM, IN A SANDBOX (cutbox-rows.mjs): the forced cells as the released guide's own fill.sh prints them over the translation 78a872961c26181e… (all of the seat's roots in one cut). By AI agents, Wed Nov 11 2026. No macro, syntax, notation, axiom, sorry.
-/
import Derived.Test.YtiejfbodcjckeaaChecked
import GoSem.Claim
import GoSem.ClaimJoined
import GoSem.ClaimMapViews
import Derived.JoinedTies
import Derived.KernelRfl
namespace Go.Proofs.Ytiejfbodcjckeaa
/- THE CELL 'sum', in the pinned program and in every row, IS THE sha256 OF THE DUMP (.gsa) THAT YtiejfbodcjckeaaProg.lean LOADS. Nothing in Lean hashes anything: it is a label: what it is worth is what the hold of that sum in a sandbox is worth. -/
noncomputable def Try.pinned : Pinned := { name := "ytiejfbodcjckeaa", sum := "78a872961c26181eb27d2093196b6353e43d3a9300a26b8e08a64b144466debe", checked := Try.checked }
namespace Rows
def none {H : Type} : Left H := { results := [], args := [] }

/-- 'laws.FnExactEditDo': WHATEVER THE INPUT: true; the input reads as it did. -/
def fnExactEditDoSpec : ChangeSpec := { name := "fnExactEditDo", fn := fun _ => fun
  | [d1, d2] => { results := [.lit (.bool true)], args := [d1, d2] }
  | _ => none }
def fnExactEditDoRow : OpenClaim := { program := "ytiejfbodcjckeaa", sum := "78a872961c26181eb27d2093196b6353e43d3a9300a26b8e08a64b144466debe", func := "loop.example/construer/laws.FnExactEditDo", spec := "fnExactEditDo", inPlace := ["internal/bytealg.IndexByteString"], unfollowed := true, recurses := true, apart := false }
def FnExactEditDoSaid : Prop := fnExactEditDoRow.holds Try.pinned (OpenSpec.ofChange fnExactEditDoSpec)

/-- ITS FALSE NEIGHBOUR: 'it returns false'. Refute it at one input. -/
def fnExactEditDoWrong : ChangeSpec := { name := "fnExactEditDo", fn := fun _ => fun
  | [d1, d2] => { results := [.lit (.bool false)], args := [d1, d2] }
  | _ => none }
def FnExactEditDoWrongFalsely : Prop := fnExactEditDoRow.holds Try.pinned (OpenSpec.ofChange fnExactEditDoWrong)

/-- 'laws.FnExactEditBack': WHATEVER THE INPUT: true; the input reads as it did. -/
def fnExactEditBackSpec : ChangeSpec := { name := "fnExactEditBack", fn := fun _ => fun
  | [d1, d2] => { results := [.lit (.bool true)], args := [d1, d2] }
  | _ => none }
def fnExactEditBackRow : OpenClaim := { program := "ytiejfbodcjckeaa", sum := "78a872961c26181eb27d2093196b6353e43d3a9300a26b8e08a64b144466debe", func := "loop.example/construer/laws.FnExactEditBack", spec := "fnExactEditBack", inPlace := ["internal/bytealg.IndexByteString"], unfollowed := true, recurses := true, apart := false }
def FnExactEditBackSaid : Prop := fnExactEditBackRow.holds Try.pinned (OpenSpec.ofChange fnExactEditBackSpec)

/-- ITS FALSE NEIGHBOUR: 'it returns false'. Refute it at one input. -/
def fnExactEditBackWrong : ChangeSpec := { name := "fnExactEditBack", fn := fun _ => fun
  | [d1, d2] => { results := [.lit (.bool false)], args := [d1, d2] }
  | _ => none }
def FnExactEditBackWrongFalsely : Prop := fnExactEditBackRow.holds Try.pinned (OpenSpec.ofChange fnExactEditBackWrong)

/-- 'laws.FnExactEditsDo': WHATEVER THE INPUT: true; the input reads as it did. -/
def fnExactEditsDoSpec : ChangeSpec := { name := "fnExactEditsDo", fn := fun _ => fun
  | [d1, d2] => { results := [.lit (.bool true)], args := [d1, d2] }
  | _ => none }
def fnExactEditsDoRow : OpenClaim := { program := "ytiejfbodcjckeaa", sum := "78a872961c26181eb27d2093196b6353e43d3a9300a26b8e08a64b144466debe", func := "loop.example/construer/laws.FnExactEditsDo", spec := "fnExactEditsDo", inPlace := ["internal/bytealg.IndexByteString"], unfollowed := true, recurses := true, apart := false }
def FnExactEditsDoSaid : Prop := fnExactEditsDoRow.holds Try.pinned (OpenSpec.ofChange fnExactEditsDoSpec)

/-- ITS FALSE NEIGHBOUR: 'it returns false'. Refute it at one input. -/
def fnExactEditsDoWrong : ChangeSpec := { name := "fnExactEditsDo", fn := fun _ => fun
  | [d1, d2] => { results := [.lit (.bool false)], args := [d1, d2] }
  | _ => none }
def FnExactEditsDoWrongFalsely : Prop := fnExactEditsDoRow.holds Try.pinned (OpenSpec.ofChange fnExactEditsDoWrong)

/-- 'laws.FnExactEditsFar': WHATEVER THE INPUT: true; the input reads as it did. -/
def fnExactEditsFarSpec : ChangeSpec := { name := "fnExactEditsFar", fn := fun _ => fun
  | [d1, d2] => { results := [.lit (.bool true)], args := [d1, d2] }
  | _ => none }
def fnExactEditsFarRow : OpenClaim := { program := "ytiejfbodcjckeaa", sum := "78a872961c26181eb27d2093196b6353e43d3a9300a26b8e08a64b144466debe", func := "loop.example/construer/laws.FnExactEditsFar", spec := "fnExactEditsFar", apart := false }
def FnExactEditsFarSaid : Prop := fnExactEditsFarRow.holds Try.pinned (OpenSpec.ofChange fnExactEditsFarSpec)

/-- ITS FALSE NEIGHBOUR: 'it returns false'. Refute it at one input. -/
def fnExactEditsFarWrong : ChangeSpec := { name := "fnExactEditsFar", fn := fun _ => fun
  | [d1, d2] => { results := [.lit (.bool false)], args := [d1, d2] }
  | _ => none }
def FnExactEditsFarWrongFalsely : Prop := fnExactEditsFarRow.holds Try.pinned (OpenSpec.ofChange fnExactEditsFarWrong)

/-- 'laws.FnEditBack': WHATEVER THE INPUT: true; the input reads as it did. -/
def fnEditBackSpec : ChangeSpec := { name := "fnEditBack", fn := fun _ => fun
  | [d] => { results := [.lit (.bool true)], args := [d] }
  | _ => none }
def fnEditBackRow : OpenClaim := { program := "ytiejfbodcjckeaa", sum := "78a872961c26181eb27d2093196b6353e43d3a9300a26b8e08a64b144466debe", func := "loop.example/construer/laws.FnEditBack", spec := "fnEditBack", inPlace := ["internal/bytealg.IndexByteString"], unfollowed := true, recurses := true, apart := false }
def FnEditBackSaid : Prop := fnEditBackRow.holds Try.pinned (OpenSpec.ofChange fnEditBackSpec)

/-- ITS FALSE NEIGHBOUR: 'it returns false'. Refute it at one input. -/
def fnEditBackWrong : ChangeSpec := { name := "fnEditBack", fn := fun _ => fun
  | [d] => { results := [.lit (.bool false)], args := [d] }
  | _ => none }
def FnEditBackWrongFalsely : Prop := fnEditBackRow.holds Try.pinned (OpenSpec.ofChange fnEditBackWrong)

/-- 'laws.FnEditsDo': WHATEVER THE INPUT: true; the input reads as it did. -/
def fnEditsDoSpec : ChangeSpec := { name := "fnEditsDo", fn := fun _ => fun
  | [d] => { results := [.lit (.bool true)], args := [d] }
  | _ => none }
def fnEditsDoRow : OpenClaim := { program := "ytiejfbodcjckeaa", sum := "78a872961c26181eb27d2093196b6353e43d3a9300a26b8e08a64b144466debe", func := "loop.example/construer/laws.FnEditsDo", spec := "fnEditsDo", inPlace := ["internal/bytealg.IndexByteString"], unfollowed := true, recurses := true, apart := false }
def FnEditsDoSaid : Prop := fnEditsDoRow.holds Try.pinned (OpenSpec.ofChange fnEditsDoSpec)

/-- ITS FALSE NEIGHBOUR: 'it returns false'. Refute it at one input. -/
def fnEditsDoWrong : ChangeSpec := { name := "fnEditsDo", fn := fun _ => fun
  | [d] => { results := [.lit (.bool false)], args := [d] }
  | _ => none }
def FnEditsDoWrongFalsely : Prop := fnEditsDoRow.holds Try.pinned (OpenSpec.ofChange fnEditsDoWrong)

/-- 'laws.FnEditsFar': WHATEVER THE INPUT: true; the input reads as it did. -/
def fnEditsFarSpec : ChangeSpec := { name := "fnEditsFar", fn := fun _ => fun
  | [d1, d2] => { results := [.lit (.bool true)], args := [d1, d2] }
  | _ => none }
def fnEditsFarRow : OpenClaim := { program := "ytiejfbodcjckeaa", sum := "78a872961c26181eb27d2093196b6353e43d3a9300a26b8e08a64b144466debe", func := "loop.example/construer/laws.FnEditsFar", spec := "fnEditsFar", apart := false }
def FnEditsFarSaid : Prop := fnEditsFarRow.holds Try.pinned (OpenSpec.ofChange fnEditsFarSpec)

/-- ITS FALSE NEIGHBOUR: 'it returns false'. Refute it at one input. -/
def fnEditsFarWrong : ChangeSpec := { name := "fnEditsFar", fn := fun _ => fun
  | [d1, d2] => { results := [.lit (.bool false)], args := [d1, d2] }
  | _ => none }
def FnEditsFarWrongFalsely : Prop := fnEditsFarRow.holds Try.pinned (OpenSpec.ofChange fnEditsFarWrong)

/-- 'laws.FnEditsUndo': WHATEVER THE INPUT: true; the input reads as it did. -/
def fnEditsUndoSpec : ChangeSpec := { name := "fnEditsUndo", fn := fun _ => fun
  | [d] => { results := [.lit (.bool true)], args := [d] }
  | _ => none }
def fnEditsUndoRow : OpenClaim := { program := "ytiejfbodcjckeaa", sum := "78a872961c26181eb27d2093196b6353e43d3a9300a26b8e08a64b144466debe", func := "loop.example/construer/laws.FnEditsUndo", spec := "fnEditsUndo", inPlace := ["internal/bytealg.IndexByteString"], unfollowed := true, recurses := true, apart := false }
def FnEditsUndoSaid : Prop := fnEditsUndoRow.holds Try.pinned (OpenSpec.ofChange fnEditsUndoSpec)

/-- ITS FALSE NEIGHBOUR: 'it returns false'. Refute it at one input. -/
def fnEditsUndoWrong : ChangeSpec := { name := "fnEditsUndo", fn := fun _ => fun
  | [d] => { results := [.lit (.bool false)], args := [d] }
  | _ => none }
def FnEditsUndoWrongFalsely : Prop := fnEditsUndoRow.holds Try.pinned (OpenSpec.ofChange fnEditsUndoWrong)

/- THE SECOND FORM. 'bulk': how many values and letters a reading holds, each counted each time it is reached (what is shared counts as often as it is met; a slice's spare places count too). A statement '..UptoSaid' is the law's where the arguments, and the package variables that the reading takes, are together of bulk at most 1048576: NARROWER than '..Said'. Prove '..Said' where nothing that the law and all that it calls make is longer than what came in: it says more and counts as full. Else prove '..UptoSaid'. A law counts once. -/
mutual
def uptoBulk {H : Type} : DataW H → Nat
  | .lit (.string bytes) => bytes.length + 1
  | .lit _ => 1
  | .nil => 1
  | .ptr d => uptoBulk d + 1
  | .slice elems spare => uptoBulkAll elems + uptoBulkAll spare + 1
  | .agg parts => uptoBulkAll parts + 1
  | .iface _ d => uptoBulk d + 1
  | .map entries => uptoBulkEntries entries + 1
  | .held _ => 1
def uptoBulkAll {H : Type} : List (DataW H) → Nat
  | [] => 0
  | d :: r => uptoBulk d + uptoBulkAll r
def uptoBulkEntries {H : Type} : List (Lit × DataW H) → Nat
  | [] => 0
  | x :: r => uptoBulkEntry x + uptoBulkEntries r
def uptoBulkEntry {H : Type} : Lit × DataW H → Nat
  | (.string bytes, d) => bytes.length + uptoBulk d + 1
  | (_, d) => uptoBulk d + 1
 end
def uptoSmall : (H : Type) → List (DataW H) → Bool := fun _ ds => decide (uptoBulkAll ds ≤ 1048576)
def OpenSpec.upto (s : _root_.Go.ChangeSpec) : _root_.Go.OpenSpec := { _root_.Go.OpenSpec.ofChange s with cond := some uptoSmall }

/-- 'laws.FnExactEditDo', WHERE WHAT IT READS IS OF BULK AT MOST 1048576: true; the input reads as it did. -/
def fnExactEditDoUptoRow : OpenClaim := { program := "ytiejfbodcjckeaa", sum := "78a872961c26181eb27d2093196b6353e43d3a9300a26b8e08a64b144466debe", func := "loop.example/construer/laws.FnExactEditDo", spec := "fnExactEditDo", inPlace := ["internal/bytealg.IndexByteString"], unfollowed := true, recurses := true, apart := false, narrowed := true }
def FnExactEditDoUptoSaid : Prop := fnExactEditDoUptoRow.holds Try.pinned (OpenSpec.upto fnExactEditDoSpec)

/-- 'laws.FnExactEditBack', WHERE WHAT IT READS IS OF BULK AT MOST 1048576: true; the input reads as it did. -/
def fnExactEditBackUptoRow : OpenClaim := { program := "ytiejfbodcjckeaa", sum := "78a872961c26181eb27d2093196b6353e43d3a9300a26b8e08a64b144466debe", func := "loop.example/construer/laws.FnExactEditBack", spec := "fnExactEditBack", inPlace := ["internal/bytealg.IndexByteString"], unfollowed := true, recurses := true, apart := false, narrowed := true }
def FnExactEditBackUptoSaid : Prop := fnExactEditBackUptoRow.holds Try.pinned (OpenSpec.upto fnExactEditBackSpec)

/-- 'laws.FnExactEditsDo', WHERE WHAT IT READS IS OF BULK AT MOST 1048576: true; the input reads as it did. -/
def fnExactEditsDoUptoRow : OpenClaim := { program := "ytiejfbodcjckeaa", sum := "78a872961c26181eb27d2093196b6353e43d3a9300a26b8e08a64b144466debe", func := "loop.example/construer/laws.FnExactEditsDo", spec := "fnExactEditsDo", inPlace := ["internal/bytealg.IndexByteString"], unfollowed := true, recurses := true, apart := false, narrowed := true }
def FnExactEditsDoUptoSaid : Prop := fnExactEditsDoUptoRow.holds Try.pinned (OpenSpec.upto fnExactEditsDoSpec)

/-- 'laws.FnExactEditsFar', WHERE WHAT IT READS IS OF BULK AT MOST 1048576: true; the input reads as it did. -/
def fnExactEditsFarUptoRow : OpenClaim := { program := "ytiejfbodcjckeaa", sum := "78a872961c26181eb27d2093196b6353e43d3a9300a26b8e08a64b144466debe", func := "loop.example/construer/laws.FnExactEditsFar", spec := "fnExactEditsFar", apart := false, narrowed := true }
def FnExactEditsFarUptoSaid : Prop := fnExactEditsFarUptoRow.holds Try.pinned (OpenSpec.upto fnExactEditsFarSpec)

/-- 'laws.FnEditBack', WHERE WHAT IT READS IS OF BULK AT MOST 1048576: true; the input reads as it did. -/
def fnEditBackUptoRow : OpenClaim := { program := "ytiejfbodcjckeaa", sum := "78a872961c26181eb27d2093196b6353e43d3a9300a26b8e08a64b144466debe", func := "loop.example/construer/laws.FnEditBack", spec := "fnEditBack", inPlace := ["internal/bytealg.IndexByteString"], unfollowed := true, recurses := true, apart := false, narrowed := true }
def FnEditBackUptoSaid : Prop := fnEditBackUptoRow.holds Try.pinned (OpenSpec.upto fnEditBackSpec)

/-- 'laws.FnEditsDo', WHERE WHAT IT READS IS OF BULK AT MOST 1048576: true; the input reads as it did. -/
def fnEditsDoUptoRow : OpenClaim := { program := "ytiejfbodcjckeaa", sum := "78a872961c26181eb27d2093196b6353e43d3a9300a26b8e08a64b144466debe", func := "loop.example/construer/laws.FnEditsDo", spec := "fnEditsDo", inPlace := ["internal/bytealg.IndexByteString"], unfollowed := true, recurses := true, apart := false, narrowed := true }
def FnEditsDoUptoSaid : Prop := fnEditsDoUptoRow.holds Try.pinned (OpenSpec.upto fnEditsDoSpec)

/-- 'laws.FnEditsFar', WHERE WHAT IT READS IS OF BULK AT MOST 1048576: true; the input reads as it did. -/
def fnEditsFarUptoRow : OpenClaim := { program := "ytiejfbodcjckeaa", sum := "78a872961c26181eb27d2093196b6353e43d3a9300a26b8e08a64b144466debe", func := "loop.example/construer/laws.FnEditsFar", spec := "fnEditsFar", apart := false, narrowed := true }
def FnEditsFarUptoSaid : Prop := fnEditsFarUptoRow.holds Try.pinned (OpenSpec.upto fnEditsFarSpec)

/-- 'laws.FnEditsUndo', WHERE WHAT IT READS IS OF BULK AT MOST 1048576: true; the input reads as it did. -/
def fnEditsUndoUptoRow : OpenClaim := { program := "ytiejfbodcjckeaa", sum := "78a872961c26181eb27d2093196b6353e43d3a9300a26b8e08a64b144466debe", func := "loop.example/construer/laws.FnEditsUndo", spec := "fnEditsUndo", inPlace := ["internal/bytealg.IndexByteString"], unfollowed := true, recurses := true, apart := false, narrowed := true }
def FnEditsUndoUptoSaid : Prop := fnEditsUndoUptoRow.holds Try.pinned (OpenSpec.upto fnEditsUndoSpec)

end Rows
end Go.Proofs.Ytiejfbodcjckeaa
