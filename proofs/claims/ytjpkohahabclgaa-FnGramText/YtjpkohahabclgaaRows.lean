/-
  No cell of these rows narrows 'for every input' (looked for: loops, veiled, ifaces, maps, wideKeys, modest, calm, conditions, laid).
  DERIVED. THE GIVEN ROWS OF THIS SEAT. 11 by the template 'for every input the law returns true; each argument reads behind the call as it read before'; 0 by the template 'total and deterministic' (their statements: YtjpkohahabclgaaTotals.lean).
  GIVEN WITH THE SEED: the statements are not yours to turn. If you find one false, say at which input.
  Laid BY PROGRAM, IN A SANDBOX (cutbox-rows.mjs): the forced cells as the released guide's own fill.sh prints them over the translation f9f55ede7a25fd33… (all of the seat's roots in one cut). By AI agents, Wed Nov 11 2026. No macro, syntax, notation, axiom, sorry.
-/
import Derived.Test.YtjpkohahabclgaaChecked
import GoSem.Claim
import GoSem.ClaimJoined
import GoSem.ClaimMapViews
import Derived.JoinedTies
import Derived.KernelRfl
namespace Go.Proofs.Ytjpkohahabclgaa
/- THE CELL 'sum', in the pinned program and in every row, IS THE sha256 OF THE DUMP (.gsa) THAT YtjpkohahabclgaaProg.lean LOADS. Nothing in Lean hashes anything: it is a label: what it is worth is what the hold of that sum in a sandbox is worth. -/
noncomputable def Try.pinned : Pinned := { name := "ytjpkohahabclgaa", sum := "f9f55ede7a25fd3328a36d733dcbd8038068cb98330f523cb637ca3c06c70b06", checked := Try.checked }
namespace Rows
def none {H : Type} : Left H := { results := [], args := [] }

/-- 'laws.FnExactGramRead': WHATEVER THE INPUT: true; the input reads as it did. -/
def fnExactGramReadSpec : ChangeSpec := { name := "fnExactGramRead", fn := fun _ => fun
  | [d] => { results := [.lit (.bool true)], args := [d] }
  | _ => none }
def fnExactGramReadRow : OpenClaim := { program := "ytjpkohahabclgaa", sum := "f9f55ede7a25fd3328a36d733dcbd8038068cb98330f523cb637ca3c06c70b06", func := "loop.example/construer/laws.FnExactGramRead", spec := "fnExactGramRead", inPlace := ["internal/bytealg.IndexByteString", "internal/bytealg.IndexString", "internal/abi.NoEscape"], unfollowed := true, recurses := true, named := ["internal/bytealg.MaxLen"], apart := false }
def FnExactGramReadSaid : Prop := fnExactGramReadRow.holds Try.pinned (OpenSpec.ofChange fnExactGramReadSpec)

/-- ITS FALSE NEIGHBOUR: 'it returns false'. Refute it at one input. -/
def fnExactGramReadWrong : ChangeSpec := { name := "fnExactGramRead", fn := fun _ => fun
  | [d] => { results := [.lit (.bool false)], args := [d] }
  | _ => none }
def FnExactGramReadWrongFalsely : Prop := fnExactGramReadRow.holds Try.pinned (OpenSpec.ofChange fnExactGramReadWrong)

/-- 'laws.FnExactGramFor': WHATEVER THE INPUT: true; the input reads as it did. -/
def fnExactGramForSpec : ChangeSpec := { name := "fnExactGramFor", fn := fun _ => fun
  | [d1, d2] => { results := [.lit (.bool true)], args := [d1, d2] }
  | _ => none }
def fnExactGramForRow : OpenClaim := { program := "ytjpkohahabclgaa", sum := "f9f55ede7a25fd3328a36d733dcbd8038068cb98330f523cb637ca3c06c70b06", func := "loop.example/construer/laws.FnExactGramFor", spec := "fnExactGramFor", apart := false }
def FnExactGramForSaid : Prop := fnExactGramForRow.holds Try.pinned (OpenSpec.ofChange fnExactGramForSpec)

/-- ITS FALSE NEIGHBOUR: 'it returns false'. Refute it at one input. -/
def fnExactGramForWrong : ChangeSpec := { name := "fnExactGramFor", fn := fun _ => fun
  | [d1, d2] => { results := [.lit (.bool false)], args := [d1, d2] }
  | _ => none }
def FnExactGramForWrongFalsely : Prop := fnExactGramForRow.holds Try.pinned (OpenSpec.ofChange fnExactGramForWrong)

/-- 'laws.FnExactGramOnly': WHATEVER THE INPUT: true; the input reads as it did. -/
def fnExactGramOnlySpec : ChangeSpec := { name := "fnExactGramOnly", fn := fun _ => fun
  | [d1, d2] => { results := [.lit (.bool true)], args := [d1, d2] }
  | _ => none }
def fnExactGramOnlyRow : OpenClaim := { program := "ytjpkohahabclgaa", sum := "f9f55ede7a25fd3328a36d733dcbd8038068cb98330f523cb637ca3c06c70b06", func := "loop.example/construer/laws.FnExactGramOnly", spec := "fnExactGramOnly", apart := false }
def FnExactGramOnlySaid : Prop := fnExactGramOnlyRow.holds Try.pinned (OpenSpec.ofChange fnExactGramOnlySpec)

/-- ITS FALSE NEIGHBOUR: 'it returns false'. Refute it at one input. -/
def fnExactGramOnlyWrong : ChangeSpec := { name := "fnExactGramOnly", fn := fun _ => fun
  | [d1, d2] => { results := [.lit (.bool false)], args := [d1, d2] }
  | _ => none }
def FnExactGramOnlyWrongFalsely : Prop := fnExactGramOnlyRow.holds Try.pinned (OpenSpec.ofChange fnExactGramOnlyWrong)

/-- 'laws.FnExactFollowOf': WHATEVER THE INPUT: true; the input reads as it did. -/
def fnExactFollowOfSpec : ChangeSpec := { name := "fnExactFollowOf", fn := fun _ => fun
  | [d1, d2] => { results := [.lit (.bool true)], args := [d1, d2] }
  | _ => none }
def fnExactFollowOfRow : OpenClaim := { program := "ytjpkohahabclgaa", sum := "f9f55ede7a25fd3328a36d733dcbd8038068cb98330f523cb637ca3c06c70b06", func := "loop.example/construer/laws.FnExactFollowOf", spec := "fnExactFollowOf", inPlace := ["internal/bytealg.IndexByteString", "internal/abi.NoEscape"], unfollowed := true, recurses := true, apart := false }
def FnExactFollowOfSaid : Prop := fnExactFollowOfRow.holds Try.pinned (OpenSpec.ofChange fnExactFollowOfSpec)

/-- ITS FALSE NEIGHBOUR: 'it returns false'. Refute it at one input. -/
def fnExactFollowOfWrong : ChangeSpec := { name := "fnExactFollowOf", fn := fun _ => fun
  | [d1, d2] => { results := [.lit (.bool false)], args := [d1, d2] }
  | _ => none }
def FnExactFollowOfWrongFalsely : Prop := fnExactFollowOfRow.holds Try.pinned (OpenSpec.ofChange fnExactFollowOfWrong)

/-- 'laws.FnExactGramTrim': WHATEVER THE INPUT: true; the input reads as it did. -/
def fnExactGramTrimSpec : ChangeSpec := { name := "fnExactGramTrim", fn := fun _ => fun
  | [d] => { results := [.lit (.bool true)], args := [d] }
  | _ => none }
def fnExactGramTrimRow : OpenClaim := { program := "ytjpkohahabclgaa", sum := "f9f55ede7a25fd3328a36d733dcbd8038068cb98330f523cb637ca3c06c70b06", func := "loop.example/construer/laws.FnExactGramTrim", spec := "fnExactGramTrim", inPlace := ["internal/bytealg.IndexByteString"], unfollowed := true, recurses := true, apart := false }
def FnExactGramTrimSaid : Prop := fnExactGramTrimRow.holds Try.pinned (OpenSpec.ofChange fnExactGramTrimSpec)

/-- ITS FALSE NEIGHBOUR: 'it returns false'. Refute it at one input. -/
def fnExactGramTrimWrong : ChangeSpec := { name := "fnExactGramTrim", fn := fun _ => fun
  | [d] => { results := [.lit (.bool false)], args := [d] }
  | _ => none }
def FnExactGramTrimWrongFalsely : Prop := fnExactGramTrimRow.holds Try.pinned (OpenSpec.ofChange fnExactGramTrimWrong)

/-- 'laws.FnGramText': WHATEVER THE INPUT: true; the input reads as it did. -/
def fnGramTextSpec : ChangeSpec := { name := "fnGramText", fn := fun _ => fun
  | [d1, d2] => { results := [.lit (.bool true)], args := [d1, d2] }
  | _ => none }
def fnGramTextRow : OpenClaim := { program := "ytjpkohahabclgaa", sum := "f9f55ede7a25fd3328a36d733dcbd8038068cb98330f523cb637ca3c06c70b06", func := "loop.example/construer/laws.FnGramText", spec := "fnGramText", inPlace := ["internal/abi.NoEscape", "internal/bytealg.IndexByteString", "internal/bytealg.IndexString"], unfollowed := true, recurses := true, named := ["internal/bytealg.MaxLen"], apart := false }
def FnGramTextSaid : Prop := fnGramTextRow.holds Try.pinned (OpenSpec.ofChange fnGramTextSpec)

/-- ITS FALSE NEIGHBOUR: 'it returns false'. Refute it at one input. -/
def fnGramTextWrong : ChangeSpec := { name := "fnGramText", fn := fun _ => fun
  | [d1, d2] => { results := [.lit (.bool false)], args := [d1, d2] }
  | _ => none }
def FnGramTextWrongFalsely : Prop := fnGramTextRow.holds Try.pinned (OpenSpec.ofChange fnGramTextWrong)

/-- 'laws.FnGramFor': WHATEVER THE INPUT: true; the input reads as it did. -/
def fnGramForSpec : ChangeSpec := { name := "fnGramFor", fn := fun _ => fun
  | [d] => { results := [.lit (.bool true)], args := [d] }
  | _ => none }
def fnGramForRow : OpenClaim := { program := "ytjpkohahabclgaa", sum := "f9f55ede7a25fd3328a36d733dcbd8038068cb98330f523cb637ca3c06c70b06", func := "loop.example/construer/laws.FnGramFor", spec := "fnGramFor", apart := false }
def FnGramForSaid : Prop := fnGramForRow.holds Try.pinned (OpenSpec.ofChange fnGramForSpec)

/-- ITS FALSE NEIGHBOUR: 'it returns false'. Refute it at one input. -/
def fnGramForWrong : ChangeSpec := { name := "fnGramFor", fn := fun _ => fun
  | [d] => { results := [.lit (.bool false)], args := [d] }
  | _ => none }
def FnGramForWrongFalsely : Prop := fnGramForRow.holds Try.pinned (OpenSpec.ofChange fnGramForWrong)

/-- 'laws.FnGramMore': WHATEVER THE INPUT: true; the input reads as it did. -/
def fnGramMoreSpec : ChangeSpec := { name := "fnGramMore", fn := fun _ => fun
  | [d] => { results := [.lit (.bool true)], args := [d] }
  | _ => none }
def fnGramMoreRow : OpenClaim := { program := "ytjpkohahabclgaa", sum := "f9f55ede7a25fd3328a36d733dcbd8038068cb98330f523cb637ca3c06c70b06", func := "loop.example/construer/laws.FnGramMore", spec := "fnGramMore", inPlace := ["internal/abi.NoEscape"], apart := false }
def FnGramMoreSaid : Prop := fnGramMoreRow.holds Try.pinned (OpenSpec.ofChange fnGramMoreSpec)

/-- ITS FALSE NEIGHBOUR: 'it returns false'. Refute it at one input. -/
def fnGramMoreWrong : ChangeSpec := { name := "fnGramMore", fn := fun _ => fun
  | [d] => { results := [.lit (.bool false)], args := [d] }
  | _ => none }
def FnGramMoreWrongFalsely : Prop := fnGramMoreRow.holds Try.pinned (OpenSpec.ofChange fnGramMoreWrong)

/-- 'laws.FnFollowOf': WHATEVER THE INPUT: true; the input reads as it did. -/
def fnFollowOfSpec : ChangeSpec := { name := "fnFollowOf", fn := fun _ => fun
  | [d] => { results := [.lit (.bool true)], args := [d] }
  | _ => none }
def fnFollowOfRow : OpenClaim := { program := "ytjpkohahabclgaa", sum := "f9f55ede7a25fd3328a36d733dcbd8038068cb98330f523cb637ca3c06c70b06", func := "loop.example/construer/laws.FnFollowOf", spec := "fnFollowOf", inPlace := ["internal/bytealg.IndexByteString", "internal/abi.NoEscape"], unfollowed := true, recurses := true, apart := false }
def FnFollowOfSaid : Prop := fnFollowOfRow.holds Try.pinned (OpenSpec.ofChange fnFollowOfSpec)

/-- ITS FALSE NEIGHBOUR: 'it returns false'. Refute it at one input. -/
def fnFollowOfWrong : ChangeSpec := { name := "fnFollowOf", fn := fun _ => fun
  | [d] => { results := [.lit (.bool false)], args := [d] }
  | _ => none }
def FnFollowOfWrongFalsely : Prop := fnFollowOfRow.holds Try.pinned (OpenSpec.ofChange fnFollowOfWrong)

/-- 'laws.FnGramTrim': WHATEVER THE INPUT: true; the input reads as it did. -/
def fnGramTrimSpec : ChangeSpec := { name := "fnGramTrim", fn := fun _ => fun
  | [d] => { results := [.lit (.bool true)], args := [d] }
  | _ => none }
def fnGramTrimRow : OpenClaim := { program := "ytjpkohahabclgaa", sum := "f9f55ede7a25fd3328a36d733dcbd8038068cb98330f523cb637ca3c06c70b06", func := "loop.example/construer/laws.FnGramTrim", spec := "fnGramTrim", inPlace := ["internal/bytealg.IndexByteString", "internal/abi.NoEscape"], unfollowed := true, recurses := true, apart := false }
def FnGramTrimSaid : Prop := fnGramTrimRow.holds Try.pinned (OpenSpec.ofChange fnGramTrimSpec)

/-- ITS FALSE NEIGHBOUR: 'it returns false'. Refute it at one input. -/
def fnGramTrimWrong : ChangeSpec := { name := "fnGramTrim", fn := fun _ => fun
  | [d] => { results := [.lit (.bool false)], args := [d] }
  | _ => none }
def FnGramTrimWrongFalsely : Prop := fnGramTrimRow.holds Try.pinned (OpenSpec.ofChange fnGramTrimWrong)

/-- 'laws.FnSetsMore': WHATEVER THE INPUT: true; the input reads as it did. -/
def fnSetsMoreSpec : ChangeSpec := { name := "fnSetsMore", fn := fun _ => fun
  | [d] => { results := [.lit (.bool true)], args := [d] }
  | _ => none }
def fnSetsMoreRow : OpenClaim := { program := "ytjpkohahabclgaa", sum := "f9f55ede7a25fd3328a36d733dcbd8038068cb98330f523cb637ca3c06c70b06", func := "loop.example/construer/laws.FnSetsMore", spec := "fnSetsMore", inPlace := ["internal/bytealg.IndexByteString", "internal/abi.NoEscape"], unfollowed := true, recurses := true, apart := false }
def FnSetsMoreSaid : Prop := fnSetsMoreRow.holds Try.pinned (OpenSpec.ofChange fnSetsMoreSpec)

/-- ITS FALSE NEIGHBOUR: 'it returns false'. Refute it at one input. -/
def fnSetsMoreWrong : ChangeSpec := { name := "fnSetsMore", fn := fun _ => fun
  | [d] => { results := [.lit (.bool false)], args := [d] }
  | _ => none }
def FnSetsMoreWrongFalsely : Prop := fnSetsMoreRow.holds Try.pinned (OpenSpec.ofChange fnSetsMoreWrong)

/- THE SECOND FORM. 'bulk': how many values and letters a reading holds, each counted each time it is reached (what is shared counts as often as it is met; a slice's spare places count too). A statement '..UptoSaid' is the law's where the arguments, and the package variables that the reading takes, are together of bulk at most 1048576: NARROWER than '..Said'. Prove '..Said' where nothing that the law and all that it calls make is longer than what came in: it says more and counts as full. Else prove '..UptoSaid'. A law counts once. -/
mutual
def uptoBulk {H : Type} : DataW H → Nat
  | .lit (.string bytes) => bytes.length + 1
  | .lit _ => 1
  | .nil => 1
  | .ptr d => uptoBulk d + 1
  | .slice elems spare => uptoBulkAll elems + uptoBulkAll spare + 1
  | .agg parts => uptoBulkAll parts + 1
  | .iface _ d => uptoBulk d + 1
  | .map entries => uptoBulkEntries entries + 1
  | .held _ => 1
def uptoBulkAll {H : Type} : List (DataW H) → Nat
  | [] => 0
  | d :: r => uptoBulk d + uptoBulkAll r
def uptoBulkEntries {H : Type} : List (Lit × DataW H) → Nat
  | [] => 0
  | x :: r => uptoBulkEntry x + uptoBulkEntries r
def uptoBulkEntry {H : Type} : Lit × DataW H → Nat
  | (.string bytes, d) => bytes.length + uptoBulk d + 1
  | (_, d) => uptoBulk d + 1
 end
def uptoSmall : (H : Type) → List (DataW H) → Bool := fun _ ds => decide (uptoBulkAll ds ≤ 1048576)
def OpenSpec.upto (s : _root_.Go.ChangeSpec) : _root_.Go.OpenSpec := { _root_.Go.OpenSpec.ofChange s with cond := some uptoSmall }

/-- 'laws.FnExactGramRead', WHERE WHAT IT READS IS OF BULK AT MOST 1048576: true; the input reads as it did. -/
def fnExactGramReadUptoRow : OpenClaim := { program := "ytjpkohahabclgaa", sum := "f9f55ede7a25fd3328a36d733dcbd8038068cb98330f523cb637ca3c06c70b06", func := "loop.example/construer/laws.FnExactGramRead", spec := "fnExactGramRead", inPlace := ["internal/bytealg.IndexByteString", "internal/bytealg.IndexString", "internal/abi.NoEscape"], unfollowed := true, recurses := true, named := ["internal/bytealg.MaxLen"], apart := false, narrowed := true }
def FnExactGramReadUptoSaid : Prop := fnExactGramReadUptoRow.holds Try.pinned (OpenSpec.upto fnExactGramReadSpec)

/-- 'laws.FnExactGramFor', WHERE WHAT IT READS IS OF BULK AT MOST 1048576: true; the input reads as it did. -/
def fnExactGramForUptoRow : OpenClaim := { program := "ytjpkohahabclgaa", sum := "f9f55ede7a25fd3328a36d733dcbd8038068cb98330f523cb637ca3c06c70b06", func := "loop.example/construer/laws.FnExactGramFor", spec := "fnExactGramFor", apart := false, narrowed := true }
def FnExactGramForUptoSaid : Prop := fnExactGramForUptoRow.holds Try.pinned (OpenSpec.upto fnExactGramForSpec)

/-- 'laws.FnExactGramOnly', WHERE WHAT IT READS IS OF BULK AT MOST 1048576: true; the input reads as it did. -/
def fnExactGramOnlyUptoRow : OpenClaim := { program := "ytjpkohahabclgaa", sum := "f9f55ede7a25fd3328a36d733dcbd8038068cb98330f523cb637ca3c06c70b06", func := "loop.example/construer/laws.FnExactGramOnly", spec := "fnExactGramOnly", apart := false, narrowed := true }
def FnExactGramOnlyUptoSaid : Prop := fnExactGramOnlyUptoRow.holds Try.pinned (OpenSpec.upto fnExactGramOnlySpec)

/-- 'laws.FnExactFollowOf', WHERE WHAT IT READS IS OF BULK AT MOST 1048576: true; the input reads as it did. -/
def fnExactFollowOfUptoRow : OpenClaim := { program := "ytjpkohahabclgaa", sum := "f9f55ede7a25fd3328a36d733dcbd8038068cb98330f523cb637ca3c06c70b06", func := "loop.example/construer/laws.FnExactFollowOf", spec := "fnExactFollowOf", inPlace := ["internal/bytealg.IndexByteString", "internal/abi.NoEscape"], unfollowed := true, recurses := true, apart := false, narrowed := true }
def FnExactFollowOfUptoSaid : Prop := fnExactFollowOfUptoRow.holds Try.pinned (OpenSpec.upto fnExactFollowOfSpec)

/-- 'laws.FnExactGramTrim', WHERE WHAT IT READS IS OF BULK AT MOST 1048576: true; the input reads as it did. -/
def fnExactGramTrimUptoRow : OpenClaim := { program := "ytjpkohahabclgaa", sum := "f9f55ede7a25fd3328a36d733dcbd8038068cb98330f523cb637ca3c06c70b06", func := "loop.example/construer/laws.FnExactGramTrim", spec := "fnExactGramTrim", inPlace := ["internal/bytealg.IndexByteString"], unfollowed := true, recurses := true, apart := false, narrowed := true }
def FnExactGramTrimUptoSaid : Prop := fnExactGramTrimUptoRow.holds Try.pinned (OpenSpec.upto fnExactGramTrimSpec)

/-- 'laws.FnGramText', WHERE WHAT IT READS IS OF BULK AT MOST 1048576: true; the input reads as it did. -/
def fnGramTextUptoRow : OpenClaim := { program := "ytjpkohahabclgaa", sum := "f9f55ede7a25fd3328a36d733dcbd8038068cb98330f523cb637ca3c06c70b06", func := "loop.example/construer/laws.FnGramText", spec := "fnGramText", inPlace := ["internal/abi.NoEscape", "internal/bytealg.IndexByteString", "internal/bytealg.IndexString"], unfollowed := true, recurses := true, named := ["internal/bytealg.MaxLen"], apart := false, narrowed := true }
def FnGramTextUptoSaid : Prop := fnGramTextUptoRow.holds Try.pinned (OpenSpec.upto fnGramTextSpec)

/-- 'laws.FnGramFor', WHERE WHAT IT READS IS OF BULK AT MOST 1048576: true; the input reads as it did. -/
def fnGramForUptoRow : OpenClaim := { program := "ytjpkohahabclgaa", sum := "f9f55ede7a25fd3328a36d733dcbd8038068cb98330f523cb637ca3c06c70b06", func := "loop.example/construer/laws.FnGramFor", spec := "fnGramFor", apart := false, narrowed := true }
def FnGramForUptoSaid : Prop := fnGramForUptoRow.holds Try.pinned (OpenSpec.upto fnGramForSpec)

/-- 'laws.FnGramMore', WHERE WHAT IT READS IS OF BULK AT MOST 1048576: true; the input reads as it did. -/
def fnGramMoreUptoRow : OpenClaim := { program := "ytjpkohahabclgaa", sum := "f9f55ede7a25fd3328a36d733dcbd8038068cb98330f523cb637ca3c06c70b06", func := "loop.example/construer/laws.FnGramMore", spec := "fnGramMore", inPlace := ["internal/abi.NoEscape"], apart := false, narrowed := true }
def FnGramMoreUptoSaid : Prop := fnGramMoreUptoRow.holds Try.pinned (OpenSpec.upto fnGramMoreSpec)

/-- 'laws.FnFollowOf', WHERE WHAT IT READS IS OF BULK AT MOST 1048576: true; the input reads as it did. -/
def fnFollowOfUptoRow : OpenClaim := { program := "ytjpkohahabclgaa", sum := "f9f55ede7a25fd3328a36d733dcbd8038068cb98330f523cb637ca3c06c70b06", func := "loop.example/construer/laws.FnFollowOf", spec := "fnFollowOf", inPlace := ["internal/bytealg.IndexByteString", "internal/abi.NoEscape"], unfollowed := true, recurses := true, apart := false, narrowed := true }
def FnFollowOfUptoSaid : Prop := fnFollowOfUptoRow.holds Try.pinned (OpenSpec.upto fnFollowOfSpec)

/-- 'laws.FnGramTrim', WHERE WHAT IT READS IS OF BULK AT MOST 1048576: true; the input reads as it did. -/
def fnGramTrimUptoRow : OpenClaim := { program := "ytjpkohahabclgaa", sum := "f9f55ede7a25fd3328a36d733dcbd8038068cb98330f523cb637ca3c06c70b06", func := "loop.example/construer/laws.FnGramTrim", spec := "fnGramTrim", inPlace := ["internal/bytealg.IndexByteString", "internal/abi.NoEscape"], unfollowed := true, recurses := true, apart := false, narrowed := true }
def FnGramTrimUptoSaid : Prop := fnGramTrimUptoRow.holds Try.pinned (OpenSpec.upto fnGramTrimSpec)

/-- 'laws.FnSetsMore', WHERE WHAT IT READS IS OF BULK AT MOST 1048576: true; the input reads as it did. -/
def fnSetsMoreUptoRow : OpenClaim := { program := "ytjpkohahabclgaa", sum := "f9f55ede7a25fd3328a36d733dcbd8038068cb98330f523cb637ca3c06c70b06", func := "loop.example/construer/laws.FnSetsMore", spec := "fnSetsMore", inPlace := ["internal/bytealg.IndexByteString", "internal/abi.NoEscape"], unfollowed := true, recurses := true, apart := false, narrowed := true }
def FnSetsMoreUptoSaid : Prop := fnSetsMoreUptoRow.holds Try.pinned (OpenSpec.upto fnSetsMoreSpec)

end Rows
end Go.Proofs.Ytjpkohahabclgaa
