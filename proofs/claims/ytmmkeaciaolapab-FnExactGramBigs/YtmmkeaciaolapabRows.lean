/-
  No cell of these rows narrows 'for every input' (looked for: loops, veiled, ifaces, maps, wideKeys, modest, calm, conditions, laid).
  DERIVED. THE GIVEN ROWS OF THIS SEAT. 7 by the template 'for every input the law returns true; each argument reads behind the call as it read before'; 0 by the template 'total and deterministic' (their statements: YtmmkeaciaolapabTotals.lean).
  GIVEN WITH THE SEED: the statements are not yours to turn. If you find one false, say at which input.
  Laid BY PROGRAM, IN A SANDBOX (cutbox-rows.mjs): the forced cells as the released guide's own fill.sh prints them over the translation 1844d1336dd090c5… (all of the seat's roots in one cut). By AI agents, Wed Nov 11 2026. No macro, syntax, notation, axiom, sorry.
-/
import Derived.Test.YtmmkeaciaolapabChecked
import GoSem.Claim
import GoSem.ClaimJoined
import GoSem.ClaimMapViews
import Derived.JoinedTies
import Derived.KernelRfl
namespace Go.Proofs.Ytmmkeaciaolapab
/- THE CELL 'sum', in the pinned program and in every row, IS THE sha256 OF THE DUMP (.gsa) THAT YtmmkeaciaolapabProg.lean LOADS. Nothing in Lean hashes anything: it is a label: what it is worth is what the hold of that sum in a sandbox is worth. -/
noncomputable def Try.pinned : Pinned := { name := "ytmmkeaciaolapab", sum := "1844d1336dd090c585431655f76ec3b1331ebee745cf51d3a30b473a6a925c51", checked := Try.checked }
namespace Rows
def none {H : Type} : Left H := { results := [], args := [] }

/-- 'laws.FnExactGramText': WHATEVER THE INPUT: true; the input reads as it did. -/
def fnExactGramTextSpec : ChangeSpec := { name := "fnExactGramText", fn := fun _ => fun
  | [d] => { results := [.lit (.bool true)], args := [d] }
  | _ => none }
def fnExactGramTextRow : OpenClaim := { program := "ytmmkeaciaolapab", sum := "1844d1336dd090c585431655f76ec3b1331ebee745cf51d3a30b473a6a925c51", func := "loop.example/construer/laws.FnExactGramText", spec := "fnExactGramText", inPlace := ["internal/abi.NoEscape"], apart := false }
def FnExactGramTextSaid : Prop := fnExactGramTextRow.holds Try.pinned (OpenSpec.ofChange fnExactGramTextSpec)

/-- ITS FALSE NEIGHBOUR: 'it returns false'. Refute it at one input. -/
def fnExactGramTextWrong : ChangeSpec := { name := "fnExactGramText", fn := fun _ => fun
  | [d] => { results := [.lit (.bool false)], args := [d] }
  | _ => none }
def FnExactGramTextWrongFalsely : Prop := fnExactGramTextRow.holds Try.pinned (OpenSpec.ofChange fnExactGramTextWrong)

/-- 'laws.FnExactGramRead': WHATEVER THE INPUT: true; the input reads as it did. -/
def fnExactGramReadSpec : ChangeSpec := { name := "fnExactGramRead", fn := fun _ => fun
  | [d] => { results := [.lit (.bool true)], args := [d] }
  | _ => none }
def fnExactGramReadRow : OpenClaim := { program := "ytmmkeaciaolapab", sum := "1844d1336dd090c585431655f76ec3b1331ebee745cf51d3a30b473a6a925c51", func := "loop.example/construer/laws.FnExactGramRead", spec := "fnExactGramRead", inPlace := ["internal/bytealg.IndexByteString", "internal/bytealg.IndexString", "internal/abi.NoEscape"], unfollowed := true, recurses := true, named := ["internal/bytealg.MaxLen"], apart := false }
def FnExactGramReadSaid : Prop := fnExactGramReadRow.holds Try.pinned (OpenSpec.ofChange fnExactGramReadSpec)

/-- ITS FALSE NEIGHBOUR: 'it returns false'. Refute it at one input. -/
def fnExactGramReadWrong : ChangeSpec := { name := "fnExactGramRead", fn := fun _ => fun
  | [d] => { results := [.lit (.bool false)], args := [d] }
  | _ => none }
def FnExactGramReadWrongFalsely : Prop := fnExactGramReadRow.holds Try.pinned (OpenSpec.ofChange fnExactGramReadWrong)

/-- 'laws.FnExactGramSame': WHATEVER THE INPUT: true; the input reads as it did. -/
def fnExactGramSameSpec : ChangeSpec := { name := "fnExactGramSame", fn := fun _ => fun
  | [d1, d2] => { results := [.lit (.bool true)], args := [d1, d2] }
  | _ => none }
def fnExactGramSameRow : OpenClaim := { program := "ytmmkeaciaolapab", sum := "1844d1336dd090c585431655f76ec3b1331ebee745cf51d3a30b473a6a925c51", func := "loop.example/construer/laws.FnExactGramSame", spec := "fnExactGramSame", apart := false }
def FnExactGramSameSaid : Prop := fnExactGramSameRow.holds Try.pinned (OpenSpec.ofChange fnExactGramSameSpec)

/-- ITS FALSE NEIGHBOUR: 'it returns false'. Refute it at one input. -/
def fnExactGramSameWrong : ChangeSpec := { name := "fnExactGramSame", fn := fun _ => fun
  | [d1, d2] => { results := [.lit (.bool false)], args := [d1, d2] }
  | _ => none }
def FnExactGramSameWrongFalsely : Prop := fnExactGramSameRow.holds Try.pinned (OpenSpec.ofChange fnExactGramSameWrong)

/-- 'laws.FnExactGramFor': WHATEVER THE INPUT: true; the input reads as it did. -/
def fnExactGramForSpec : ChangeSpec := { name := "fnExactGramFor", fn := fun _ => fun
  | [d1, d2] => { results := [.lit (.bool true)], args := [d1, d2] }
  | _ => none }
def fnExactGramForRow : OpenClaim := { program := "ytmmkeaciaolapab", sum := "1844d1336dd090c585431655f76ec3b1331ebee745cf51d3a30b473a6a925c51", func := "loop.example/construer/laws.FnExactGramFor", spec := "fnExactGramFor", apart := false }
def FnExactGramForSaid : Prop := fnExactGramForRow.holds Try.pinned (OpenSpec.ofChange fnExactGramForSpec)

/-- ITS FALSE NEIGHBOUR: 'it returns false'. Refute it at one input. -/
def fnExactGramForWrong : ChangeSpec := { name := "fnExactGramFor", fn := fun _ => fun
  | [d1, d2] => { results := [.lit (.bool false)], args := [d1, d2] }
  | _ => none }
def FnExactGramForWrongFalsely : Prop := fnExactGramForRow.holds Try.pinned (OpenSpec.ofChange fnExactGramForWrong)

/-- 'laws.FnExactGramBigs': WHATEVER THE INPUT: true; the input reads as it did. -/
def fnExactGramBigsSpec : ChangeSpec := { name := "fnExactGramBigs", fn := fun _ => fun
  | [d] => { results := [.lit (.bool true)], args := [d] }
  | _ => none }
def fnExactGramBigsRow : OpenClaim := { program := "ytmmkeaciaolapab", sum := "1844d1336dd090c585431655f76ec3b1331ebee745cf51d3a30b473a6a925c51", func := "loop.example/construer/laws.FnExactGramBigs", spec := "fnExactGramBigs", inPlace := ["internal/abi.NoEscape", "internal/bytealg.IndexByteString"], apart := false }
def FnExactGramBigsSaid : Prop := fnExactGramBigsRow.holds Try.pinned (OpenSpec.ofChange fnExactGramBigsSpec)

/-- ITS FALSE NEIGHBOUR: 'it returns false'. Refute it at one input. -/
def fnExactGramBigsWrong : ChangeSpec := { name := "fnExactGramBigs", fn := fun _ => fun
  | [d] => { results := [.lit (.bool false)], args := [d] }
  | _ => none }
def FnExactGramBigsWrongFalsely : Prop := fnExactGramBigsRow.holds Try.pinned (OpenSpec.ofChange fnExactGramBigsWrong)

/-- 'laws.FnExactGramSmalls': WHATEVER THE INPUT: true; the input reads as it did. -/
def fnExactGramSmallsSpec : ChangeSpec := { name := "fnExactGramSmalls", fn := fun _ => fun
  | [d] => { results := [.lit (.bool true)], args := [d] }
  | _ => none }
def fnExactGramSmallsRow : OpenClaim := { program := "ytmmkeaciaolapab", sum := "1844d1336dd090c585431655f76ec3b1331ebee745cf51d3a30b473a6a925c51", func := "loop.example/construer/laws.FnExactGramSmalls", spec := "fnExactGramSmalls", inPlace := ["internal/abi.NoEscape", "internal/bytealg.IndexByteString"], apart := false }
def FnExactGramSmallsSaid : Prop := fnExactGramSmallsRow.holds Try.pinned (OpenSpec.ofChange fnExactGramSmallsSpec)

/-- ITS FALSE NEIGHBOUR: 'it returns false'. Refute it at one input. -/
def fnExactGramSmallsWrong : ChangeSpec := { name := "fnExactGramSmalls", fn := fun _ => fun
  | [d] => { results := [.lit (.bool false)], args := [d] }
  | _ => none }
def FnExactGramSmallsWrongFalsely : Prop := fnExactGramSmallsRow.holds Try.pinned (OpenSpec.ofChange fnExactGramSmallsWrong)

/-- 'laws.FnExactGramOnly': WHATEVER THE INPUT: true; the input reads as it did. -/
def fnExactGramOnlySpec : ChangeSpec := { name := "fnExactGramOnly", fn := fun _ => fun
  | [d1, d2] => { results := [.lit (.bool true)], args := [d1, d2] }
  | _ => none }
def fnExactGramOnlyRow : OpenClaim := { program := "ytmmkeaciaolapab", sum := "1844d1336dd090c585431655f76ec3b1331ebee745cf51d3a30b473a6a925c51", func := "loop.example/construer/laws.FnExactGramOnly", spec := "fnExactGramOnly", apart := false }
def FnExactGramOnlySaid : Prop := fnExactGramOnlyRow.holds Try.pinned (OpenSpec.ofChange fnExactGramOnlySpec)

/-- ITS FALSE NEIGHBOUR: 'it returns false'. Refute it at one input. -/
def fnExactGramOnlyWrong : ChangeSpec := { name := "fnExactGramOnly", fn := fun _ => fun
  | [d1, d2] => { results := [.lit (.bool false)], args := [d1, d2] }
  | _ => none }
def FnExactGramOnlyWrongFalsely : Prop := fnExactGramOnlyRow.holds Try.pinned (OpenSpec.ofChange fnExactGramOnlyWrong)

/- THE SECOND FORM. 'bulk': how many values and letters a reading holds, each counted each time it is reached (what is shared counts as often as it is met; a slice's spare places count too). A statement '..UptoSaid' is the law's where the arguments, and the package variables that the reading takes, are together of bulk at most 1048576: NARROWER than '..Said'. Prove '..Said' where nothing that the law and all that it calls make is longer than what came in: it says more and counts as full. Else prove '..UptoSaid'. A law counts once. -/
mutual
def uptoBulk {H : Type} : DataW H → Nat
  | .lit (.string bytes) => bytes.length + 1
  | .lit _ => 1
  | .nil => 1
  | .ptr d => uptoBulk d + 1
  | .slice elems spare => uptoBulkAll elems + uptoBulkAll spare + 1
  | .agg parts => uptoBulkAll parts + 1
  | .iface _ d => uptoBulk d + 1
  | .map entries => uptoBulkEntries entries + 1
  | .held _ => 1
def uptoBulkAll {H : Type} : List (DataW H) → Nat
  | [] => 0
  | d :: r => uptoBulk d + uptoBulkAll r
def uptoBulkEntries {H : Type} : List (Lit × DataW H) → Nat
  | [] => 0
  | x :: r => uptoBulkEntry x + uptoBulkEntries r
def uptoBulkEntry {H : Type} : Lit × DataW H → Nat
  | (.string bytes, d) => bytes.length + uptoBulk d + 1
  | (_, d) => uptoBulk d + 1
 end
def uptoSmall : (H : Type) → List (DataW H) → Bool := fun _ ds => decide (uptoBulkAll ds ≤ 1048576)
def OpenSpec.upto (s : _root_.Go.ChangeSpec) : _root_.Go.OpenSpec := { _root_.Go.OpenSpec.ofChange s with cond := some uptoSmall }

/-- 'laws.FnExactGramText', WHERE WHAT IT READS IS OF BULK AT MOST 1048576: true; the input reads as it did. -/
def fnExactGramTextUptoRow : OpenClaim := { program := "ytmmkeaciaolapab", sum := "1844d1336dd090c585431655f76ec3b1331ebee745cf51d3a30b473a6a925c51", func := "loop.example/construer/laws.FnExactGramText", spec := "fnExactGramText", inPlace := ["internal/abi.NoEscape"], apart := false, narrowed := true }
def FnExactGramTextUptoSaid : Prop := fnExactGramTextUptoRow.holds Try.pinned (OpenSpec.upto fnExactGramTextSpec)

/-- 'laws.FnExactGramRead', WHERE WHAT IT READS IS OF BULK AT MOST 1048576: true; the input reads as it did. -/
def fnExactGramReadUptoRow : OpenClaim := { program := "ytmmkeaciaolapab", sum := "1844d1336dd090c585431655f76ec3b1331ebee745cf51d3a30b473a6a925c51", func := "loop.example/construer/laws.FnExactGramRead", spec := "fnExactGramRead", inPlace := ["internal/bytealg.IndexByteString", "internal/bytealg.IndexString", "internal/abi.NoEscape"], unfollowed := true, recurses := true, named := ["internal/bytealg.MaxLen"], apart := false, narrowed := true }
def FnExactGramReadUptoSaid : Prop := fnExactGramReadUptoRow.holds Try.pinned (OpenSpec.upto fnExactGramReadSpec)

/-- 'laws.FnExactGramSame', WHERE WHAT IT READS IS OF BULK AT MOST 1048576: true; the input reads as it did. -/
def fnExactGramSameUptoRow : OpenClaim := { program := "ytmmkeaciaolapab", sum := "1844d1336dd090c585431655f76ec3b1331ebee745cf51d3a30b473a6a925c51", func := "loop.example/construer/laws.FnExactGramSame", spec := "fnExactGramSame", apart := false, narrowed := true }
def FnExactGramSameUptoSaid : Prop := fnExactGramSameUptoRow.holds Try.pinned (OpenSpec.upto fnExactGramSameSpec)

/-- 'laws.FnExactGramFor', WHERE WHAT IT READS IS OF BULK AT MOST 1048576: true; the input reads as it did. -/
def fnExactGramForUptoRow : OpenClaim := { program := "ytmmkeaciaolapab", sum := "1844d1336dd090c585431655f76ec3b1331ebee745cf51d3a30b473a6a925c51", func := "loop.example/construer/laws.FnExactGramFor", spec := "fnExactGramFor", apart := false, narrowed := true }
def FnExactGramForUptoSaid : Prop := fnExactGramForUptoRow.holds Try.pinned (OpenSpec.upto fnExactGramForSpec)

/-- 'laws.FnExactGramBigs', WHERE WHAT IT READS IS OF BULK AT MOST 1048576: true; the input reads as it did. -/
def fnExactGramBigsUptoRow : OpenClaim := { program := "ytmmkeaciaolapab", sum := "1844d1336dd090c585431655f76ec3b1331ebee745cf51d3a30b473a6a925c51", func := "loop.example/construer/laws.FnExactGramBigs", spec := "fnExactGramBigs", inPlace := ["internal/abi.NoEscape", "internal/bytealg.IndexByteString"], apart := false, narrowed := true }
def FnExactGramBigsUptoSaid : Prop := fnExactGramBigsUptoRow.holds Try.pinned (OpenSpec.upto fnExactGramBigsSpec)

/-- 'laws.FnExactGramSmalls', WHERE WHAT IT READS IS OF BULK AT MOST 1048576: true; the input reads as it did. -/
def fnExactGramSmallsUptoRow : OpenClaim := { program := "ytmmkeaciaolapab", sum := "1844d1336dd090c585431655f76ec3b1331ebee745cf51d3a30b473a6a925c51", func := "loop.example/construer/laws.FnExactGramSmalls", spec := "fnExactGramSmalls", inPlace := ["internal/abi.NoEscape", "internal/bytealg.IndexByteString"], apart := false, narrowed := true }
def FnExactGramSmallsUptoSaid : Prop := fnExactGramSmallsUptoRow.holds Try.pinned (OpenSpec.upto fnExactGramSmallsSpec)

/-- 'laws.FnExactGramOnly', WHERE WHAT IT READS IS OF BULK AT MOST 1048576: true; the input reads as it did. -/
def fnExactGramOnlyUptoRow : OpenClaim := { program := "ytmmkeaciaolapab", sum := "1844d1336dd090c585431655f76ec3b1331ebee745cf51d3a30b473a6a925c51", func := "loop.example/construer/laws.FnExactGramOnly", spec := "fnExactGramOnly", apart := false, narrowed := true }
def FnExactGramOnlyUptoSaid : Prop := fnExactGramOnlyUptoRow.holds Try.pinned (OpenSpec.upto fnExactGramOnlySpec)

end Rows
end Go.Proofs.Ytmmkeaciaolapab
