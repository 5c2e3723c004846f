/-
  No cell of these rows narrows 'for every input' (looked for: loops, veiled, ifaces, maps, wideKeys, modest, calm, conditions, laid).
  DERIVED. THE GIVEN ROWS OF THIS SEAT. 12 by the template 'for every input the law returns true; each argument reads behind the call as it read before'; 0 by the template 'total and deterministic' (their statements: YtkjaibnjiebgcaaTotals.lean).
  GIVEN WITH THE SEED: the statements are not yours to turn. If you find one false, say at which input.
  Laid BY PROGRAM, IN A SANDBOX (cutbox-rows.mjs): the forced cells as the released guide's own fill.sh prints them over the translation 29ddd1b11e1e900a… (all of the seat's roots in one cut). By AI agents, Wed Nov 11 2026. No macro, syntax, notation, axiom, sorry.
-/
import Derived.Test.YtkjaibnjiebgcaaChecked
import GoSem.Claim
import GoSem.ClaimJoined
import GoSem.ClaimMapViews
import Derived.JoinedTies
import Derived.KernelRfl
namespace Go.Proofs.Ytkjaibnjiebgcaa
/- THE CELL 'sum', in the pinned program and in every row, IS THE sha256 OF THE DUMP (.gsa) THAT YtkjaibnjiebgcaaProg.lean LOADS. Nothing in Lean hashes anything: it is a label: what it is worth is what the hold of that sum in a sandbox is worth. -/
noncomputable def Try.pinned : Pinned := { name := "ytkjaibnjiebgcaa", sum := "29ddd1b11e1e900abcf3e5639f69dbac8a097ccd9fd12ec90bd6ff1231b90f18", checked := Try.checked }
namespace Rows
def none {H : Type} : Left H := { results := [], args := [] }

/-- 'laws.FnExactGramRead': WHATEVER THE INPUT: true; the input reads as it did. -/
def fnExactGramReadSpec : ChangeSpec := { name := "fnExactGramRead", fn := fun _ => fun
  | [d] => { results := [.lit (.bool true)], args := [d] }
  | _ => none }
def fnExactGramReadRow : OpenClaim := { program := "ytkjaibnjiebgcaa", sum := "29ddd1b11e1e900abcf3e5639f69dbac8a097ccd9fd12ec90bd6ff1231b90f18", func := "loop.example/construer/laws.FnExactGramRead", spec := "fnExactGramRead", inPlace := ["internal/bytealg.IndexByteString", "internal/bytealg.IndexString", "internal/abi.NoEscape"], unfollowed := true, recurses := true, named := ["internal/bytealg.MaxLen"], apart := false }
def FnExactGramReadSaid : Prop := fnExactGramReadRow.holds Try.pinned (OpenSpec.ofChange fnExactGramReadSpec)

/-- ITS FALSE NEIGHBOUR: 'it returns false'. Refute it at one input. -/
def fnExactGramReadWrong : ChangeSpec := { name := "fnExactGramRead", fn := fun _ => fun
  | [d] => { results := [.lit (.bool false)], args := [d] }
  | _ => none }
def FnExactGramReadWrongFalsely : Prop := fnExactGramReadRow.holds Try.pinned (OpenSpec.ofChange fnExactGramReadWrong)

/-- 'laws.FnExactGramFor': WHATEVER THE INPUT: true; the input reads as it did. -/
def fnExactGramForSpec : ChangeSpec := { name := "fnExactGramFor", fn := fun _ => fun
  | [d1, d2] => { results := [.lit (.bool true)], args := [d1, d2] }
  | _ => none }
def fnExactGramForRow : OpenClaim := { program := "ytkjaibnjiebgcaa", sum := "29ddd1b11e1e900abcf3e5639f69dbac8a097ccd9fd12ec90bd6ff1231b90f18", func := "loop.example/construer/laws.FnExactGramFor", spec := "fnExactGramFor", apart := false }
def FnExactGramForSaid : Prop := fnExactGramForRow.holds Try.pinned (OpenSpec.ofChange fnExactGramForSpec)

/-- ITS FALSE NEIGHBOUR: 'it returns false'. Refute it at one input. -/
def fnExactGramForWrong : ChangeSpec := { name := "fnExactGramFor", fn := fun _ => fun
  | [d1, d2] => { results := [.lit (.bool false)], args := [d1, d2] }
  | _ => none }
def FnExactGramForWrongFalsely : Prop := fnExactGramForRow.holds Try.pinned (OpenSpec.ofChange fnExactGramForWrong)

/-- 'laws.FnExactGramOnly': WHATEVER THE INPUT: true; the input reads as it did. -/
def fnExactGramOnlySpec : ChangeSpec := { name := "fnExactGramOnly", fn := fun _ => fun
  | [d1, d2] => { results := [.lit (.bool true)], args := [d1, d2] }
  | _ => none }
def fnExactGramOnlyRow : OpenClaim := { program := "ytkjaibnjiebgcaa", sum := "29ddd1b11e1e900abcf3e5639f69dbac8a097ccd9fd12ec90bd6ff1231b90f18", func := "loop.example/construer/laws.FnExactGramOnly", spec := "fnExactGramOnly", apart := false }
def FnExactGramOnlySaid : Prop := fnExactGramOnlyRow.holds Try.pinned (OpenSpec.ofChange fnExactGramOnlySpec)

/-- ITS FALSE NEIGHBOUR: 'it returns false'. Refute it at one input. -/
def fnExactGramOnlyWrong : ChangeSpec := { name := "fnExactGramOnly", fn := fun _ => fun
  | [d1, d2] => { results := [.lit (.bool false)], args := [d1, d2] }
  | _ => none }
def FnExactGramOnlyWrongFalsely : Prop := fnExactGramOnlyRow.holds Try.pinned (OpenSpec.ofChange fnExactGramOnlyWrong)

/-- 'laws.FnExactGramNone': WHATEVER THE INPUT: true; the input reads as it did. -/
def fnExactGramNoneSpec : ChangeSpec := { name := "fnExactGramNone", fn := fun _ => fun
  | [d] => { results := [.lit (.bool true)], args := [d] }
  | _ => none }
def fnExactGramNoneRow : OpenClaim := { program := "ytkjaibnjiebgcaa", sum := "29ddd1b11e1e900abcf3e5639f69dbac8a097ccd9fd12ec90bd6ff1231b90f18", func := "loop.example/construer/laws.FnExactGramNone", spec := "fnExactGramNone", inPlace := ["internal/bytealg.IndexByteString", "internal/abi.NoEscape"], unfollowed := true, recurses := true, apart := false }
def FnExactGramNoneSaid : Prop := fnExactGramNoneRow.holds Try.pinned (OpenSpec.ofChange fnExactGramNoneSpec)

/-- ITS FALSE NEIGHBOUR: 'it returns false'. Refute it at one input. -/
def fnExactGramNoneWrong : ChangeSpec := { name := "fnExactGramNone", fn := fun _ => fun
  | [d] => { results := [.lit (.bool false)], args := [d] }
  | _ => none }
def FnExactGramNoneWrongFalsely : Prop := fnExactGramNoneRow.holds Try.pinned (OpenSpec.ofChange fnExactGramNoneWrong)

/-- 'laws.FnExactGramMade': WHATEVER THE INPUT: true; the input reads as it did. -/
def fnExactGramMadeSpec : ChangeSpec := { name := "fnExactGramMade", fn := fun _ => fun
  | [d] => { results := [.lit (.bool true)], args := [d] }
  | _ => none }
def fnExactGramMadeRow : OpenClaim := { program := "ytkjaibnjiebgcaa", sum := "29ddd1b11e1e900abcf3e5639f69dbac8a097ccd9fd12ec90bd6ff1231b90f18", func := "loop.example/construer/laws.FnExactGramMade", spec := "fnExactGramMade", inPlace := ["internal/bytealg.IndexByteString", "internal/abi.NoEscape"], unfollowed := true, recurses := true, apart := false }
def FnExactGramMadeSaid : Prop := fnExactGramMadeRow.holds Try.pinned (OpenSpec.ofChange fnExactGramMadeSpec)

/-- ITS FALSE NEIGHBOUR: 'it returns false'. Refute it at one input. -/
def fnExactGramMadeWrong : ChangeSpec := { name := "fnExactGramMade", fn := fun _ => fun
  | [d] => { results := [.lit (.bool false)], args := [d] }
  | _ => none }
def FnExactGramMadeWrongFalsely : Prop := fnExactGramMadeRow.holds Try.pinned (OpenSpec.ofChange fnExactGramMadeWrong)

/-- 'laws.FnExactGramMet': WHATEVER THE INPUT: true; the input reads as it did. -/
def fnExactGramMetSpec : ChangeSpec := { name := "fnExactGramMet", fn := fun _ => fun
  | [d] => { results := [.lit (.bool true)], args := [d] }
  | _ => none }
def fnExactGramMetRow : OpenClaim := { program := "ytkjaibnjiebgcaa", sum := "29ddd1b11e1e900abcf3e5639f69dbac8a097ccd9fd12ec90bd6ff1231b90f18", func := "loop.example/construer/laws.FnExactGramMet", spec := "fnExactGramMet", inPlace := ["internal/bytealg.IndexByteString", "internal/abi.NoEscape"], unfollowed := true, recurses := true, apart := false }
def FnExactGramMetSaid : Prop := fnExactGramMetRow.holds Try.pinned (OpenSpec.ofChange fnExactGramMetSpec)

/-- ITS FALSE NEIGHBOUR: 'it returns false'. Refute it at one input. -/
def fnExactGramMetWrong : ChangeSpec := { name := "fnExactGramMet", fn := fun _ => fun
  | [d] => { results := [.lit (.bool false)], args := [d] }
  | _ => none }
def FnExactGramMetWrongFalsely : Prop := fnExactGramMetRow.holds Try.pinned (OpenSpec.ofChange fnExactGramMetWrong)

/-- 'laws.FnExactFirstOf': WHATEVER THE INPUT: true; the input reads as it did. -/
def fnExactFirstOfSpec : ChangeSpec := { name := "fnExactFirstOf", fn := fun _ => fun
  | [d1, d2] => { results := [.lit (.bool true)], args := [d1, d2] }
  | _ => none }
def fnExactFirstOfRow : OpenClaim := { program := "ytkjaibnjiebgcaa", sum := "29ddd1b11e1e900abcf3e5639f69dbac8a097ccd9fd12ec90bd6ff1231b90f18", func := "loop.example/construer/laws.FnExactFirstOf", spec := "fnExactFirstOf", inPlace := ["internal/bytealg.IndexByteString", "internal/abi.NoEscape"], unfollowed := true, recurses := true, apart := false }
def FnExactFirstOfSaid : Prop := fnExactFirstOfRow.holds Try.pinned (OpenSpec.ofChange fnExactFirstOfSpec)

/-- ITS FALSE NEIGHBOUR: 'it returns false'. Refute it at one input. -/
def fnExactFirstOfWrong : ChangeSpec := { name := "fnExactFirstOf", fn := fun _ => fun
  | [d1, d2] => { results := [.lit (.bool false)], args := [d1, d2] }
  | _ => none }
def FnExactFirstOfWrongFalsely : Prop := fnExactFirstOfRow.holds Try.pinned (OpenSpec.ofChange fnExactFirstOfWrong)

/-- 'laws.FnExactFollowOf': WHATEVER THE INPUT: true; the input reads as it did. -/
def fnExactFollowOfSpec : ChangeSpec := { name := "fnExactFollowOf", fn := fun _ => fun
  | [d1, d2] => { results := [.lit (.bool true)], args := [d1, d2] }
  | _ => none }
def fnExactFollowOfRow : OpenClaim := { program := "ytkjaibnjiebgcaa", sum := "29ddd1b11e1e900abcf3e5639f69dbac8a097ccd9fd12ec90bd6ff1231b90f18", func := "loop.example/construer/laws.FnExactFollowOf", spec := "fnExactFollowOf", inPlace := ["internal/bytealg.IndexByteString", "internal/abi.NoEscape"], unfollowed := true, recurses := true, apart := false }
def FnExactFollowOfSaid : Prop := fnExactFollowOfRow.holds Try.pinned (OpenSpec.ofChange fnExactFollowOfSpec)

/-- ITS FALSE NEIGHBOUR: 'it returns false'. Refute it at one input. -/
def fnExactFollowOfWrong : ChangeSpec := { name := "fnExactFollowOf", fn := fun _ => fun
  | [d1, d2] => { results := [.lit (.bool false)], args := [d1, d2] }
  | _ => none }
def FnExactFollowOfWrongFalsely : Prop := fnExactFollowOfRow.holds Try.pinned (OpenSpec.ofChange fnExactFollowOfWrong)

/-- 'laws.FnExactGramTrim': WHATEVER THE INPUT: true; the input reads as it did. -/
def fnExactGramTrimSpec : ChangeSpec := { name := "fnExactGramTrim", fn := fun _ => fun
  | [d] => { results := [.lit (.bool true)], args := [d] }
  | _ => none }
def fnExactGramTrimRow : OpenClaim := { program := "ytkjaibnjiebgcaa", sum := "29ddd1b11e1e900abcf3e5639f69dbac8a097ccd9fd12ec90bd6ff1231b90f18", func := "loop.example/construer/laws.FnExactGramTrim", spec := "fnExactGramTrim", inPlace := ["internal/bytealg.IndexByteString"], unfollowed := true, recurses := true, apart := false }
def FnExactGramTrimSaid : Prop := fnExactGramTrimRow.holds Try.pinned (OpenSpec.ofChange fnExactGramTrimSpec)

/-- ITS FALSE NEIGHBOUR: 'it returns false'. Refute it at one input. -/
def fnExactGramTrimWrong : ChangeSpec := { name := "fnExactGramTrim", fn := fun _ => fun
  | [d] => { results := [.lit (.bool false)], args := [d] }
  | _ => none }
def FnExactGramTrimWrongFalsely : Prop := fnExactGramTrimRow.holds Try.pinned (OpenSpec.ofChange fnExactGramTrimWrong)

/-- 'laws.FnGramText': WHATEVER THE INPUT: true; the input reads as it did. -/
def fnGramTextSpec : ChangeSpec := { name := "fnGramText", fn := fun _ => fun
  | [d1, d2] => { results := [.lit (.bool true)], args := [d1, d2] }
  | _ => none }
def fnGramTextRow : OpenClaim := { program := "ytkjaibnjiebgcaa", sum := "29ddd1b11e1e900abcf3e5639f69dbac8a097ccd9fd12ec90bd6ff1231b90f18", func := "loop.example/construer/laws.FnGramText", spec := "fnGramText", inPlace := ["internal/abi.NoEscape", "internal/bytealg.IndexByteString", "internal/bytealg.IndexString"], unfollowed := true, recurses := true, named := ["internal/bytealg.MaxLen"], apart := false }
def FnGramTextSaid : Prop := fnGramTextRow.holds Try.pinned (OpenSpec.ofChange fnGramTextSpec)

/-- ITS FALSE NEIGHBOUR: 'it returns false'. Refute it at one input. -/
def fnGramTextWrong : ChangeSpec := { name := "fnGramText", fn := fun _ => fun
  | [d1, d2] => { results := [.lit (.bool false)], args := [d1, d2] }
  | _ => none }
def FnGramTextWrongFalsely : Prop := fnGramTextRow.holds Try.pinned (OpenSpec.ofChange fnGramTextWrong)

/-- 'laws.FnGramFor': WHATEVER THE INPUT: true; the input reads as it did. -/
def fnGramForSpec : ChangeSpec := { name := "fnGramFor", fn := fun _ => fun
  | [d] => { results := [.lit (.bool true)], args := [d] }
  | _ => none }
def fnGramForRow : OpenClaim := { program := "ytkjaibnjiebgcaa", sum := "29ddd1b11e1e900abcf3e5639f69dbac8a097ccd9fd12ec90bd6ff1231b90f18", func := "loop.example/construer/laws.FnGramFor", spec := "fnGramFor", apart := false }
def FnGramForSaid : Prop := fnGramForRow.holds Try.pinned (OpenSpec.ofChange fnGramForSpec)

/-- ITS FALSE NEIGHBOUR: 'it returns false'. Refute it at one input. -/
def fnGramForWrong : ChangeSpec := { name := "fnGramFor", fn := fun _ => fun
  | [d] => { results := [.lit (.bool false)], args := [d] }
  | _ => none }
def FnGramForWrongFalsely : Prop := fnGramForRow.holds Try.pinned (OpenSpec.ofChange fnGramForWrong)

/-- 'laws.FnGramMore': WHATEVER THE INPUT: true; the input reads as it did. -/
def fnGramMoreSpec : ChangeSpec := { name := "fnGramMore", fn := fun _ => fun
  | [d] => { results := [.lit (.bool true)], args := [d] }
  | _ => none }
def fnGramMoreRow : OpenClaim := { program := "ytkjaibnjiebgcaa", sum := "29ddd1b11e1e900abcf3e5639f69dbac8a097ccd9fd12ec90bd6ff1231b90f18", func := "loop.example/construer/laws.FnGramMore", spec := "fnGramMore", inPlace := ["internal/abi.NoEscape"], apart := false }
def FnGramMoreSaid : Prop := fnGramMoreRow.holds Try.pinned (OpenSpec.ofChange fnGramMoreSpec)

/-- ITS FALSE NEIGHBOUR: 'it returns false'. Refute it at one input. -/
def fnGramMoreWrong : ChangeSpec := { name := "fnGramMore", fn := fun _ => fun
  | [d] => { results := [.lit (.bool false)], args := [d] }
  | _ => none }
def FnGramMoreWrongFalsely : Prop := fnGramMoreRow.holds Try.pinned (OpenSpec.ofChange fnGramMoreWrong)

/- THE SECOND FORM. 'bulk': how many values and letters a reading holds, each counted each time it is reached (what is shared counts as often as it is met; a slice's spare places count too). A statement '..UptoSaid' is the law's where the arguments, and the package variables that the reading takes, are together of bulk at most 1048576: NARROWER than '..Said'. Prove '..Said' where nothing that the law and all that it calls make is longer than what came in: it says more and counts as full. Else prove '..UptoSaid'. A law counts once. -/
mutual
def uptoBulk {H : Type} : DataW H → Nat
  | .lit (.string bytes) => bytes.length + 1
  | .lit _ => 1
  | .nil => 1
  | .ptr d => uptoBulk d + 1
  | .slice elems spare => uptoBulkAll elems + uptoBulkAll spare + 1
  | .agg parts => uptoBulkAll parts + 1
  | .iface _ d => uptoBulk d + 1
  | .map entries => uptoBulkEntries entries + 1
  | .held _ => 1
def uptoBulkAll {H : Type} : List (DataW H) → Nat
  | [] => 0
  | d :: r => uptoBulk d + uptoBulkAll r
def uptoBulkEntries {H : Type} : List (Lit × DataW H) → Nat
  | [] => 0
  | x :: r => uptoBulkEntry x + uptoBulkEntries r
def uptoBulkEntry {H : Type} : Lit × DataW H → Nat
  | (.string bytes, d) => bytes.length + uptoBulk d + 1
  | (_, d) => uptoBulk d + 1
 end
def uptoSmall : (H : Type) → List (DataW H) → Bool := fun _ ds => decide (uptoBulkAll ds ≤ 1048576)
def OpenSpec.upto (s : _root_.Go.ChangeSpec) : _root_.Go.OpenSpec := { _root_.Go.OpenSpec.ofChange s with cond := some uptoSmall }

/-- 'laws.FnExactGramRead', WHERE WHAT IT READS IS OF BULK AT MOST 1048576: true; the input reads as it did. -/
def fnExactGramReadUptoRow : OpenClaim := { program := "ytkjaibnjiebgcaa", sum := "29ddd1b11e1e900abcf3e5639f69dbac8a097ccd9fd12ec90bd6ff1231b90f18", func := "loop.example/construer/laws.FnExactGramRead", spec := "fnExactGramRead", inPlace := ["internal/bytealg.IndexByteString", "internal/bytealg.IndexString", "internal/abi.NoEscape"], unfollowed := true, recurses := true, named := ["internal/bytealg.MaxLen"], apart := false, narrowed := true }
def FnExactGramReadUptoSaid : Prop := fnExactGramReadUptoRow.holds Try.pinned (OpenSpec.upto fnExactGramReadSpec)

/-- 'laws.FnExactGramFor', WHERE WHAT IT READS IS OF BULK AT MOST 1048576: true; the input reads as it did. -/
def fnExactGramForUptoRow : OpenClaim := { program := "ytkjaibnjiebgcaa", sum := "29ddd1b11e1e900abcf3e5639f69dbac8a097ccd9fd12ec90bd6ff1231b90f18", func := "loop.example/construer/laws.FnExactGramFor", spec := "fnExactGramFor", apart := false, narrowed := true }
def FnExactGramForUptoSaid : Prop := fnExactGramForUptoRow.holds Try.pinned (OpenSpec.upto fnExactGramForSpec)

/-- 'laws.FnExactGramOnly', WHERE WHAT IT READS IS OF BULK AT MOST 1048576: true; the input reads as it did. -/
def fnExactGramOnlyUptoRow : OpenClaim := { program := "ytkjaibnjiebgcaa", sum := "29ddd1b11e1e900abcf3e5639f69dbac8a097ccd9fd12ec90bd6ff1231b90f18", func := "loop.example/construer/laws.FnExactGramOnly", spec := "fnExactGramOnly", apart := false, narrowed := true }
def FnExactGramOnlyUptoSaid : Prop := fnExactGramOnlyUptoRow.holds Try.pinned (OpenSpec.upto fnExactGramOnlySpec)

/-- 'laws.FnExactGramNone', WHERE WHAT IT READS IS OF BULK AT MOST 1048576: true; the input reads as it did. -/
def fnExactGramNoneUptoRow : OpenClaim := { program := "ytkjaibnjiebgcaa", sum := "29ddd1b11e1e900abcf3e5639f69dbac8a097ccd9fd12ec90bd6ff1231b90f18", func := "loop.example/construer/laws.FnExactGramNone", spec := "fnExactGramNone", inPlace := ["internal/bytealg.IndexByteString", "internal/abi.NoEscape"], unfollowed := true, recurses := true, apart := false, narrowed := true }
def FnExactGramNoneUptoSaid : Prop := fnExactGramNoneUptoRow.holds Try.pinned (OpenSpec.upto fnExactGramNoneSpec)

/-- 'laws.FnExactGramMade', WHERE WHAT IT READS IS OF BULK AT MOST 1048576: true; the input reads as it did. -/
def fnExactGramMadeUptoRow : OpenClaim := { program := "ytkjaibnjiebgcaa", sum := "29ddd1b11e1e900abcf3e5639f69dbac8a097ccd9fd12ec90bd6ff1231b90f18", func := "loop.example/construer/laws.FnExactGramMade", spec := "fnExactGramMade", inPlace := ["internal/bytealg.IndexByteString", "internal/abi.NoEscape"], unfollowed := true, recurses := true, apart := false, narrowed := true }
def FnExactGramMadeUptoSaid : Prop := fnExactGramMadeUptoRow.holds Try.pinned (OpenSpec.upto fnExactGramMadeSpec)

/-- 'laws.FnExactGramMet', WHERE WHAT IT READS IS OF BULK AT MOST 1048576: true; the input reads as it did. -/
def fnExactGramMetUptoRow : OpenClaim := { program := "ytkjaibnjiebgcaa", sum := "29ddd1b11e1e900abcf3e5639f69dbac8a097ccd9fd12ec90bd6ff1231b90f18", func := "loop.example/construer/laws.FnExactGramMet", spec := "fnExactGramMet", inPlace := ["internal/bytealg.IndexByteString", "internal/abi.NoEscape"], unfollowed := true, recurses := true, apart := false, narrowed := true }
def FnExactGramMetUptoSaid : Prop := fnExactGramMetUptoRow.holds Try.pinned (OpenSpec.upto fnExactGramMetSpec)

/-- 'laws.FnExactFirstOf', WHERE WHAT IT READS IS OF BULK AT MOST 1048576: true; the input reads as it did. -/
def fnExactFirstOfUptoRow : OpenClaim := { program := "ytkjaibnjiebgcaa", sum := "29ddd1b11e1e900abcf3e5639f69dbac8a097ccd9fd12ec90bd6ff1231b90f18", func := "loop.example/construer/laws.FnExactFirstOf", spec := "fnExactFirstOf", inPlace := ["internal/bytealg.IndexByteString", "internal/abi.NoEscape"], unfollowed := true, recurses := true, apart := false, narrowed := true }
def FnExactFirstOfUptoSaid : Prop := fnExactFirstOfUptoRow.holds Try.pinned (OpenSpec.upto fnExactFirstOfSpec)

/-- 'laws.FnExactFollowOf', WHERE WHAT IT READS IS OF BULK AT MOST 1048576: true; the input reads as it did. -/
def fnExactFollowOfUptoRow : OpenClaim := { program := "ytkjaibnjiebgcaa", sum := "29ddd1b11e1e900abcf3e5639f69dbac8a097ccd9fd12ec90bd6ff1231b90f18", func := "loop.example/construer/laws.FnExactFollowOf", spec := "fnExactFollowOf", inPlace := ["internal/bytealg.IndexByteString", "internal/abi.NoEscape"], unfollowed := true, recurses := true, apart := false, narrowed := true }
def FnExactFollowOfUptoSaid : Prop := fnExactFollowOfUptoRow.holds Try.pinned (OpenSpec.upto fnExactFollowOfSpec)

/-- 'laws.FnExactGramTrim', WHERE WHAT IT READS IS OF BULK AT MOST 1048576: true; the input reads as it did. -/
def fnExactGramTrimUptoRow : OpenClaim := { program := "ytkjaibnjiebgcaa", sum := "29ddd1b11e1e900abcf3e5639f69dbac8a097ccd9fd12ec90bd6ff1231b90f18", func := "loop.example/construer/laws.FnExactGramTrim", spec := "fnExactGramTrim", inPlace := ["internal/bytealg.IndexByteString"], unfollowed := true, recurses := true, apart := false, narrowed := true }
def FnExactGramTrimUptoSaid : Prop := fnExactGramTrimUptoRow.holds Try.pinned (OpenSpec.upto fnExactGramTrimSpec)

/-- 'laws.FnGramText', WHERE WHAT IT READS IS OF BULK AT MOST 1048576: true; the input reads as it did. -/
def fnGramTextUptoRow : OpenClaim := { program := "ytkjaibnjiebgcaa", sum := "29ddd1b11e1e900abcf3e5639f69dbac8a097ccd9fd12ec90bd6ff1231b90f18", func := "loop.example/construer/laws.FnGramText", spec := "fnGramText", inPlace := ["internal/abi.NoEscape", "internal/bytealg.IndexByteString", "internal/bytealg.IndexString"], unfollowed := true, recurses := true, named := ["internal/bytealg.MaxLen"], apart := false, narrowed := true }
def FnGramTextUptoSaid : Prop := fnGramTextUptoRow.holds Try.pinned (OpenSpec.upto fnGramTextSpec)

/-- 'laws.FnGramFor', WHERE WHAT IT READS IS OF BULK AT MOST 1048576: true; the input reads as it did. -/
def fnGramForUptoRow : OpenClaim := { program := "ytkjaibnjiebgcaa", sum := "29ddd1b11e1e900abcf3e5639f69dbac8a097ccd9fd12ec90bd6ff1231b90f18", func := "loop.example/construer/laws.FnGramFor", spec := "fnGramFor", apart := false, narrowed := true }
def FnGramForUptoSaid : Prop := fnGramForUptoRow.holds Try.pinned (OpenSpec.upto fnGramForSpec)

/-- 'laws.FnGramMore', WHERE WHAT IT READS IS OF BULK AT MOST 1048576: true; the input reads as it did. -/
def fnGramMoreUptoRow : OpenClaim := { program := "ytkjaibnjiebgcaa", sum := "29ddd1b11e1e900abcf3e5639f69dbac8a097ccd9fd12ec90bd6ff1231b90f18", func := "loop.example/construer/laws.FnGramMore", spec := "fnGramMore", inPlace := ["internal/abi.NoEscape"], apart := false, narrowed := true }
def FnGramMoreUptoSaid : Prop := fnGramMoreUptoRow.holds Try.pinned (OpenSpec.upto fnGramMoreSpec)

end Rows
end Go.Proofs.Ytkjaibnjiebgcaa
