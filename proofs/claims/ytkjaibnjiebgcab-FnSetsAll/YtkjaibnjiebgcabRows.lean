/-
  No cell of these rows narrows 'for every input' (looked for: loops, veiled, ifaces, maps, wideKeys, modest, calm, conditions, laid).
  DERIVED. THE GIVEN ROWS OF THIS SEAT. 11 by the template 'for every input the law returns true; each argument reads behind the call as it read before'; 0 by the template 'total and deterministic' (their statements: YtkjaibnjiebgcabTotals.lean).
  GIVEN WITH THE SEED: the statements are not yours to turn. If you find one false, say at which input.
  Laid BY PROGRAM, IN A SANDBOX (cutbox-rows.mjs): the forced cells as the released guide's own fill.sh prints them over the translation 8631e597d804dcd8… (all of the seat's roots in one cut). By AI agents, Wed Nov 11 2026. No macro, syntax, notation, axiom, sorry.
-/
import Derived.Test.YtkjaibnjiebgcabChecked
import GoSem.Claim
import GoSem.ClaimJoined
import GoSem.ClaimMapViews
import Derived.JoinedTies
import Derived.KernelRfl
namespace Go.Proofs.Ytkjaibnjiebgcab
/- THE CELL 'sum', in the pinned program and in every row, IS THE sha256 OF THE DUMP (.gsa) THAT YtkjaibnjiebgcabProg.lean LOADS. Nothing in Lean hashes anything: it is a label: what it is worth is what the hold of that sum in a sandbox is worth. -/
noncomputable def Try.pinned : Pinned := { name := "ytkjaibnjiebgcab", sum := "8631e597d804dcd82d0f0390c42f2ba2f16531b752522b3d22944b00a1946d98", checked := Try.checked }
namespace Rows
def none {H : Type} : Left H := { results := [], args := [] }

/-- 'laws.FnGramNone': WHATEVER THE INPUT: true; the input reads as it did. -/
def fnGramNoneSpec : ChangeSpec := { name := "fnGramNone", fn := fun _ => fun
  | [d] => { results := [.lit (.bool true)], args := [d] }
  | _ => none }
def fnGramNoneRow : OpenClaim := { program := "ytkjaibnjiebgcab", sum := "8631e597d804dcd82d0f0390c42f2ba2f16531b752522b3d22944b00a1946d98", func := "loop.example/construer/laws.FnGramNone", spec := "fnGramNone", inPlace := ["internal/bytealg.IndexByteString", "internal/abi.NoEscape"], unfollowed := true, recurses := true, apart := false }
def FnGramNoneSaid : Prop := fnGramNoneRow.holds Try.pinned (OpenSpec.ofChange fnGramNoneSpec)

/-- ITS FALSE NEIGHBOUR: 'it returns false'. Refute it at one input. -/
def fnGramNoneWrong : ChangeSpec := { name := "fnGramNone", fn := fun _ => fun
  | [d] => { results := [.lit (.bool false)], args := [d] }
  | _ => none }
def FnGramNoneWrongFalsely : Prop := fnGramNoneRow.holds Try.pinned (OpenSpec.ofChange fnGramNoneWrong)

/-- 'laws.FnGramMade': WHATEVER THE INPUT: true; the input reads as it did. -/
def fnGramMadeSpec : ChangeSpec := { name := "fnGramMade", fn := fun _ => fun
  | [d] => { results := [.lit (.bool true)], args := [d] }
  | _ => none }
def fnGramMadeRow : OpenClaim := { program := "ytkjaibnjiebgcab", sum := "8631e597d804dcd82d0f0390c42f2ba2f16531b752522b3d22944b00a1946d98", func := "loop.example/construer/laws.FnGramMade", spec := "fnGramMade", inPlace := ["internal/bytealg.IndexByteString", "internal/abi.NoEscape"], unfollowed := true, recurses := true, apart := false }
def FnGramMadeSaid : Prop := fnGramMadeRow.holds Try.pinned (OpenSpec.ofChange fnGramMadeSpec)

/-- ITS FALSE NEIGHBOUR: 'it returns false'. Refute it at one input. -/
def fnGramMadeWrong : ChangeSpec := { name := "fnGramMade", fn := fun _ => fun
  | [d] => { results := [.lit (.bool false)], args := [d] }
  | _ => none }
def FnGramMadeWrongFalsely : Prop := fnGramMadeRow.holds Try.pinned (OpenSpec.ofChange fnGramMadeWrong)

/-- 'laws.FnGramMet': WHATEVER THE INPUT: true; the input reads as it did. -/
def fnGramMetSpec : ChangeSpec := { name := "fnGramMet", fn := fun _ => fun
  | [d] => { results := [.lit (.bool true)], args := [d] }
  | _ => none }
def fnGramMetRow : OpenClaim := { program := "ytkjaibnjiebgcab", sum := "8631e597d804dcd82d0f0390c42f2ba2f16531b752522b3d22944b00a1946d98", func := "loop.example/construer/laws.FnGramMet", spec := "fnGramMet", inPlace := ["internal/bytealg.IndexByteString", "internal/abi.NoEscape"], unfollowed := true, recurses := true, apart := false }
def FnGramMetSaid : Prop := fnGramMetRow.holds Try.pinned (OpenSpec.ofChange fnGramMetSpec)

/-- ITS FALSE NEIGHBOUR: 'it returns false'. Refute it at one input. -/
def fnGramMetWrong : ChangeSpec := { name := "fnGramMet", fn := fun _ => fun
  | [d] => { results := [.lit (.bool false)], args := [d] }
  | _ => none }
def FnGramMetWrongFalsely : Prop := fnGramMetRow.holds Try.pinned (OpenSpec.ofChange fnGramMetWrong)

/-- 'laws.FnFirstOf': WHATEVER THE INPUT: true; the input reads as it did. -/
def fnFirstOfSpec : ChangeSpec := { name := "fnFirstOf", fn := fun _ => fun
  | [d1, d2] => { results := [.lit (.bool true)], args := [d1, d2] }
  | _ => none }
def fnFirstOfRow : OpenClaim := { program := "ytkjaibnjiebgcab", sum := "8631e597d804dcd82d0f0390c42f2ba2f16531b752522b3d22944b00a1946d98", func := "loop.example/construer/laws.FnFirstOf", spec := "fnFirstOf", inPlace := ["internal/bytealg.IndexByteString", "internal/abi.NoEscape"], unfollowed := true, recurses := true, apart := false }
def FnFirstOfSaid : Prop := fnFirstOfRow.holds Try.pinned (OpenSpec.ofChange fnFirstOfSpec)

/-- ITS FALSE NEIGHBOUR: 'it returns false'. Refute it at one input. -/
def fnFirstOfWrong : ChangeSpec := { name := "fnFirstOf", fn := fun _ => fun
  | [d1, d2] => { results := [.lit (.bool false)], args := [d1, d2] }
  | _ => none }
def FnFirstOfWrongFalsely : Prop := fnFirstOfRow.holds Try.pinned (OpenSpec.ofChange fnFirstOfWrong)

/-- 'laws.FnFollowOf': WHATEVER THE INPUT: true; the input reads as it did. -/
def fnFollowOfSpec : ChangeSpec := { name := "fnFollowOf", fn := fun _ => fun
  | [d] => { results := [.lit (.bool true)], args := [d] }
  | _ => none }
def fnFollowOfRow : OpenClaim := { program := "ytkjaibnjiebgcab", sum := "8631e597d804dcd82d0f0390c42f2ba2f16531b752522b3d22944b00a1946d98", func := "loop.example/construer/laws.FnFollowOf", spec := "fnFollowOf", inPlace := ["internal/bytealg.IndexByteString", "internal/abi.NoEscape"], unfollowed := true, recurses := true, apart := false }
def FnFollowOfSaid : Prop := fnFollowOfRow.holds Try.pinned (OpenSpec.ofChange fnFollowOfSpec)

/-- ITS FALSE NEIGHBOUR: 'it returns false'. Refute it at one input. -/
def fnFollowOfWrong : ChangeSpec := { name := "fnFollowOf", fn := fun _ => fun
  | [d] => { results := [.lit (.bool false)], args := [d] }
  | _ => none }
def FnFollowOfWrongFalsely : Prop := fnFollowOfRow.holds Try.pinned (OpenSpec.ofChange fnFollowOfWrong)

/-- 'laws.FnGramTrim': WHATEVER THE INPUT: true; the input reads as it did. -/
def fnGramTrimSpec : ChangeSpec := { name := "fnGramTrim", fn := fun _ => fun
  | [d] => { results := [.lit (.bool true)], args := [d] }
  | _ => none }
def fnGramTrimRow : OpenClaim := { program := "ytkjaibnjiebgcab", sum := "8631e597d804dcd82d0f0390c42f2ba2f16531b752522b3d22944b00a1946d98", func := "loop.example/construer/laws.FnGramTrim", spec := "fnGramTrim", inPlace := ["internal/bytealg.IndexByteString", "internal/abi.NoEscape"], unfollowed := true, recurses := true, apart := false }
def FnGramTrimSaid : Prop := fnGramTrimRow.holds Try.pinned (OpenSpec.ofChange fnGramTrimSpec)

/-- ITS FALSE NEIGHBOUR: 'it returns false'. Refute it at one input. -/
def fnGramTrimWrong : ChangeSpec := { name := "fnGramTrim", fn := fun _ => fun
  | [d] => { results := [.lit (.bool false)], args := [d] }
  | _ => none }
def FnGramTrimWrongFalsely : Prop := fnGramTrimRow.holds Try.pinned (OpenSpec.ofChange fnGramTrimWrong)

/-- 'laws.FnSetsMore': WHATEVER THE INPUT: true; the input reads as it did. -/
def fnSetsMoreSpec : ChangeSpec := { name := "fnSetsMore", fn := fun _ => fun
  | [d] => { results := [.lit (.bool true)], args := [d] }
  | _ => none }
def fnSetsMoreRow : OpenClaim := { program := "ytkjaibnjiebgcab", sum := "8631e597d804dcd82d0f0390c42f2ba2f16531b752522b3d22944b00a1946d98", func := "loop.example/construer/laws.FnSetsMore", spec := "fnSetsMore", inPlace := ["internal/bytealg.IndexByteString", "internal/abi.NoEscape"], unfollowed := true, recurses := true, apart := false }
def FnSetsMoreSaid : Prop := fnSetsMoreRow.holds Try.pinned (OpenSpec.ofChange fnSetsMoreSpec)

/-- ITS FALSE NEIGHBOUR: 'it returns false'. Refute it at one input. -/
def fnSetsMoreWrong : ChangeSpec := { name := "fnSetsMore", fn := fun _ => fun
  | [d] => { results := [.lit (.bool false)], args := [d] }
  | _ => none }
def FnSetsMoreWrongFalsely : Prop := fnSetsMoreRow.holds Try.pinned (OpenSpec.ofChange fnSetsMoreWrong)

/-- 'laws.FnSetsBent': WHATEVER THE INPUT: true; the input reads as it did. -/
def fnSetsBentSpec : ChangeSpec := { name := "fnSetsBent", fn := fun _ => fun
  | [d] => { results := [.lit (.bool true)], args := [d] }
  | _ => none }
def fnSetsBentRow : OpenClaim := { program := "ytkjaibnjiebgcab", sum := "8631e597d804dcd82d0f0390c42f2ba2f16531b752522b3d22944b00a1946d98", func := "loop.example/construer/laws.FnSetsBent", spec := "fnSetsBent", inPlace := ["internal/bytealg.IndexByteString", "internal/abi.NoEscape"], unfollowed := true, recurses := true, apart := false }
def FnSetsBentSaid : Prop := fnSetsBentRow.holds Try.pinned (OpenSpec.ofChange fnSetsBentSpec)

/-- ITS FALSE NEIGHBOUR: 'it returns false'. Refute it at one input. -/
def fnSetsBentWrong : ChangeSpec := { name := "fnSetsBent", fn := fun _ => fun
  | [d] => { results := [.lit (.bool false)], args := [d] }
  | _ => none }
def FnSetsBentWrongFalsely : Prop := fnSetsBentRow.holds Try.pinned (OpenSpec.ofChange fnSetsBentWrong)

/-- 'laws.FnFirstNone': WHATEVER THE INPUT: true; the input reads as it did. -/
def fnFirstNoneSpec : ChangeSpec := { name := "fnFirstNone", fn := fun _ => fun
  | [d] => { results := [.lit (.bool true)], args := [d] }
  | _ => none }
def fnFirstNoneRow : OpenClaim := { program := "ytkjaibnjiebgcab", sum := "8631e597d804dcd82d0f0390c42f2ba2f16531b752522b3d22944b00a1946d98", func := "loop.example/construer/laws.FnFirstNone", spec := "fnFirstNone", inPlace := ["internal/bytealg.IndexByteString", "internal/abi.NoEscape"], unfollowed := true, recurses := true, apart := false }
def FnFirstNoneSaid : Prop := fnFirstNoneRow.holds Try.pinned (OpenSpec.ofChange fnFirstNoneSpec)

/-- ITS FALSE NEIGHBOUR: 'it returns false'. Refute it at one input. -/
def fnFirstNoneWrong : ChangeSpec := { name := "fnFirstNone", fn := fun _ => fun
  | [d] => { results := [.lit (.bool false)], args := [d] }
  | _ => none }
def FnFirstNoneWrongFalsely : Prop := fnFirstNoneRow.holds Try.pinned (OpenSpec.ofChange fnFirstNoneWrong)

/-- 'laws.FnMetTrim': WHATEVER THE INPUT: true; the input reads as it did. -/
def fnMetTrimSpec : ChangeSpec := { name := "fnMetTrim", fn := fun _ => fun
  | [d] => { results := [.lit (.bool true)], args := [d] }
  | _ => none }
def fnMetTrimRow : OpenClaim := { program := "ytkjaibnjiebgcab", sum := "8631e597d804dcd82d0f0390c42f2ba2f16531b752522b3d22944b00a1946d98", func := "loop.example/construer/laws.FnMetTrim", spec := "fnMetTrim", inPlace := ["internal/bytealg.IndexByteString", "internal/abi.NoEscape"], unfollowed := true, recurses := true, apart := false }
def FnMetTrimSaid : Prop := fnMetTrimRow.holds Try.pinned (OpenSpec.ofChange fnMetTrimSpec)

/-- ITS FALSE NEIGHBOUR: 'it returns false'. Refute it at one input. -/
def fnMetTrimWrong : ChangeSpec := { name := "fnMetTrim", fn := fun _ => fun
  | [d] => { results := [.lit (.bool false)], args := [d] }
  | _ => none }
def FnMetTrimWrongFalsely : Prop := fnMetTrimRow.holds Try.pinned (OpenSpec.ofChange fnMetTrimWrong)

/-- 'laws.FnSetsAll': WHATEVER THE INPUT: true; the input reads as it did. -/
def fnSetsAllSpec : ChangeSpec := { name := "fnSetsAll", fn := fun _ => fun
  | [d] => { results := [.lit (.bool true)], args := [d] }
  | _ => none }
def fnSetsAllRow : OpenClaim := { program := "ytkjaibnjiebgcab", sum := "8631e597d804dcd82d0f0390c42f2ba2f16531b752522b3d22944b00a1946d98", func := "loop.example/construer/laws.FnSetsAll", spec := "fnSetsAll", inPlace := ["internal/bytealg.IndexByteString", "internal/abi.NoEscape"], unfollowed := true, recurses := true, apart := false }
def FnSetsAllSaid : Prop := fnSetsAllRow.holds Try.pinned (OpenSpec.ofChange fnSetsAllSpec)

/-- ITS FALSE NEIGHBOUR: 'it returns false'. Refute it at one input. -/
def fnSetsAllWrong : ChangeSpec := { name := "fnSetsAll", fn := fun _ => fun
  | [d] => { results := [.lit (.bool false)], args := [d] }
  | _ => none }
def FnSetsAllWrongFalsely : Prop := fnSetsAllRow.holds Try.pinned (OpenSpec.ofChange fnSetsAllWrong)

/- THE SECOND FORM. 'bulk': how many values and letters a reading holds, each counted each time it is reached (what is shared counts as often as it is met; a slice's spare places count too). A statement '..UptoSaid' is the law's where the arguments, and the package variables that the reading takes, are together of bulk at most 1048576: NARROWER than '..Said'. Prove '..Said' where nothing that the law and all that it calls make is longer than what came in: it says more and counts as full. Else prove '..UptoSaid'. A law counts once. -/
mutual
def uptoBulk {H : Type} : DataW H → Nat
  | .lit (.string bytes) => bytes.length + 1
  | .lit _ => 1
  | .nil => 1
  | .ptr d => uptoBulk d + 1
  | .slice elems spare => uptoBulkAll elems + uptoBulkAll spare + 1
  | .agg parts => uptoBulkAll parts + 1
  | .iface _ d => uptoBulk d + 1
  | .map entries => uptoBulkEntries entries + 1
  | .held _ => 1
def uptoBulkAll {H : Type} : List (DataW H) → Nat
  | [] => 0
  | d :: r => uptoBulk d + uptoBulkAll r
def uptoBulkEntries {H : Type} : List (Lit × DataW H) → Nat
  | [] => 0
  | x :: r => uptoBulkEntry x + uptoBulkEntries r
def uptoBulkEntry {H : Type} : Lit × DataW H → Nat
  | (.string bytes, d) => bytes.length + uptoBulk d + 1
  | (_, d) => uptoBulk d + 1
 end
def uptoSmall : (H : Type) → List (DataW H) → Bool := fun _ ds => decide (uptoBulkAll ds ≤ 1048576)
def OpenSpec.upto (s : _root_.Go.ChangeSpec) : _root_.Go.OpenSpec := { _root_.Go.OpenSpec.ofChange s with cond := some uptoSmall }

/-- 'laws.FnGramNone', WHERE WHAT IT READS IS OF BULK AT MOST 1048576: true; the input reads as it did. -/
def fnGramNoneUptoRow : OpenClaim := { program := "ytkjaibnjiebgcab", sum := "8631e597d804dcd82d0f0390c42f2ba2f16531b752522b3d22944b00a1946d98", func := "loop.example/construer/laws.FnGramNone", spec := "fnGramNone", inPlace := ["internal/bytealg.IndexByteString", "internal/abi.NoEscape"], unfollowed := true, recurses := true, apart := false, narrowed := true }
def FnGramNoneUptoSaid : Prop := fnGramNoneUptoRow.holds Try.pinned (OpenSpec.upto fnGramNoneSpec)

/-- 'laws.FnGramMade', WHERE WHAT IT READS IS OF BULK AT MOST 1048576: true; the input reads as it did. -/
def fnGramMadeUptoRow : OpenClaim := { program := "ytkjaibnjiebgcab", sum := "8631e597d804dcd82d0f0390c42f2ba2f16531b752522b3d22944b00a1946d98", func := "loop.example/construer/laws.FnGramMade", spec := "fnGramMade", inPlace := ["internal/bytealg.IndexByteString", "internal/abi.NoEscape"], unfollowed := true, recurses := true, apart := false, narrowed := true }
def FnGramMadeUptoSaid : Prop := fnGramMadeUptoRow.holds Try.pinned (OpenSpec.upto fnGramMadeSpec)

/-- 'laws.FnGramMet', WHERE WHAT IT READS IS OF BULK AT MOST 1048576: true; the input reads as it did. -/
def fnGramMetUptoRow : OpenClaim := { program := "ytkjaibnjiebgcab", sum := "8631e597d804dcd82d0f0390c42f2ba2f16531b752522b3d22944b00a1946d98", func := "loop.example/construer/laws.FnGramMet", spec := "fnGramMet", inPlace := ["internal/bytealg.IndexByteString", "internal/abi.NoEscape"], unfollowed := true, recurses := true, apart := false, narrowed := true }
def FnGramMetUptoSaid : Prop := fnGramMetUptoRow.holds Try.pinned (OpenSpec.upto fnGramMetSpec)

/-- 'laws.FnFirstOf', WHERE WHAT IT READS IS OF BULK AT MOST 1048576: true; the input reads as it did. -/
def fnFirstOfUptoRow : OpenClaim := { program := "ytkjaibnjiebgcab", sum := "8631e597d804dcd82d0f0390c42f2ba2f16531b752522b3d22944b00a1946d98", func := "loop.example/construer/laws.FnFirstOf", spec := "fnFirstOf", inPlace := ["internal/bytealg.IndexByteString", "internal/abi.NoEscape"], unfollowed := true, recurses := true, apart := false, narrowed := true }
def FnFirstOfUptoSaid : Prop := fnFirstOfUptoRow.holds Try.pinned (OpenSpec.upto fnFirstOfSpec)

/-- 'laws.FnFollowOf', WHERE WHAT IT READS IS OF BULK AT MOST 1048576: true; the input reads as it did. -/
def fnFollowOfUptoRow : OpenClaim := { program := "ytkjaibnjiebgcab", sum := "8631e597d804dcd82d0f0390c42f2ba2f16531b752522b3d22944b00a1946d98", func := "loop.example/construer/laws.FnFollowOf", spec := "fnFollowOf", inPlace := ["internal/bytealg.IndexByteString", "internal/abi.NoEscape"], unfollowed := true, recurses := true, apart := false, narrowed := true }
def FnFollowOfUptoSaid : Prop := fnFollowOfUptoRow.holds Try.pinned (OpenSpec.upto fnFollowOfSpec)

/-- 'laws.FnGramTrim', WHERE WHAT IT READS IS OF BULK AT MOST 1048576: true; the input reads as it did. -/
def fnGramTrimUptoRow : OpenClaim := { program := "ytkjaibnjiebgcab", sum := "8631e597d804dcd82d0f0390c42f2ba2f16531b752522b3d22944b00a1946d98", func := "loop.example/construer/laws.FnGramTrim", spec := "fnGramTrim", inPlace := ["internal/bytealg.IndexByteString", "internal/abi.NoEscape"], unfollowed := true, recurses := true, apart := false, narrowed := true }
def FnGramTrimUptoSaid : Prop := fnGramTrimUptoRow.holds Try.pinned (OpenSpec.upto fnGramTrimSpec)

/-- 'laws.FnSetsMore', WHERE WHAT IT READS IS OF BULK AT MOST 1048576: true; the input reads as it did. -/
def fnSetsMoreUptoRow : OpenClaim := { program := "ytkjaibnjiebgcab", sum := "8631e597d804dcd82d0f0390c42f2ba2f16531b752522b3d22944b00a1946d98", func := "loop.example/construer/laws.FnSetsMore", spec := "fnSetsMore", inPlace := ["internal/bytealg.IndexByteString", "internal/abi.NoEscape"], unfollowed := true, recurses := true, apart := false, narrowed := true }
def FnSetsMoreUptoSaid : Prop := fnSetsMoreUptoRow.holds Try.pinned (OpenSpec.upto fnSetsMoreSpec)

/-- 'laws.FnSetsBent', WHERE WHAT IT READS IS OF BULK AT MOST 1048576: true; the input reads as it did. -/
def fnSetsBentUptoRow : OpenClaim := { program := "ytkjaibnjiebgcab", sum := "8631e597d804dcd82d0f0390c42f2ba2f16531b752522b3d22944b00a1946d98", func := "loop.example/construer/laws.FnSetsBent", spec := "fnSetsBent", inPlace := ["internal/bytealg.IndexByteString", "internal/abi.NoEscape"], unfollowed := true, recurses := true, apart := false, narrowed := true }
def FnSetsBentUptoSaid : Prop := fnSetsBentUptoRow.holds Try.pinned (OpenSpec.upto fnSetsBentSpec)

/-- 'laws.FnFirstNone', WHERE WHAT IT READS IS OF BULK AT MOST 1048576: true; the input reads as it did. -/
def fnFirstNoneUptoRow : OpenClaim := { program := "ytkjaibnjiebgcab", sum := "8631e597d804dcd82d0f0390c42f2ba2f16531b752522b3d22944b00a1946d98", func := "loop.example/construer/laws.FnFirstNone", spec := "fnFirstNone", inPlace := ["internal/bytealg.IndexByteString", "internal/abi.NoEscape"], unfollowed := true, recurses := true, apart := false, narrowed := true }
def FnFirstNoneUptoSaid : Prop := fnFirstNoneUptoRow.holds Try.pinned (OpenSpec.upto fnFirstNoneSpec)

/-- 'laws.FnMetTrim', WHERE WHAT IT READS IS OF BULK AT MOST 1048576: true; the input reads as it did. -/
def fnMetTrimUptoRow : OpenClaim := { program := "ytkjaibnjiebgcab", sum := "8631e597d804dcd82d0f0390c42f2ba2f16531b752522b3d22944b00a1946d98", func := "loop.example/construer/laws.FnMetTrim", spec := "fnMetTrim", inPlace := ["internal/bytealg.IndexByteString", "internal/abi.NoEscape"], unfollowed := true, recurses := true, apart := false, narrowed := true }
def FnMetTrimUptoSaid : Prop := fnMetTrimUptoRow.holds Try.pinned (OpenSpec.upto fnMetTrimSpec)

/-- 'laws.FnSetsAll', WHERE WHAT IT READS IS OF BULK AT MOST 1048576: true; the input reads as it did. -/
def fnSetsAllUptoRow : OpenClaim := { program := "ytkjaibnjiebgcab", sum := "8631e597d804dcd82d0f0390c42f2ba2f16531b752522b3d22944b00a1946d98", func := "loop.example/construer/laws.FnSetsAll", spec := "fnSetsAll", inPlace := ["internal/bytealg.IndexByteString", "internal/abi.NoEscape"], unfollowed := true, recurses := true, apart := false, narrowed := true }
def FnSetsAllUptoSaid : Prop := fnSetsAllUptoRow.holds Try.pinned (OpenSpec.upto fnSetsAllSpec)

end Rows
end Go.Proofs.Ytkjaibnjiebgcab
