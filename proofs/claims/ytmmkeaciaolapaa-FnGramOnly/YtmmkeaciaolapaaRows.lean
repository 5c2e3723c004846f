/-
  No cell of these rows narrows 'for every input' (looked for: loops, veiled, ifaces, maps, wideKeys, modest, calm, conditions, laid).
  DERIVED. THE GIVEN ROWS OF THIS SEAT. 12 by the template 'for every input the law returns true; each argument reads behind the call as it read before'; 0 by the template 'total and deterministic' (their statements: YtmmkeaciaolapaaTotals.lean).
  GIVEN WITH THE SEED: the statements are not yours to turn. If you find one false, say at which input.
  Laid BY PROGRAM, IN A SANDBOX (cutbox-rows.mjs): the forced cells as the released guide's own fill.sh prints them over the translation 5185698b2708743e… (all of the seat's roots in one cut). By AI agents, Wed Nov 11 2026. No macro, syntax, notation, axiom, sorry.
-/
import Derived.Test.YtmmkeaciaolapaaChecked
import GoSem.Claim
import GoSem.ClaimJoined
import GoSem.ClaimMapViews
import Derived.JoinedTies
import Derived.KernelRfl
namespace Go.Proofs.Ytmmkeaciaolapaa
/- THE CELL 'sum', in the pinned program and in every row, IS THE sha256 OF THE DUMP (.gsa) THAT YtmmkeaciaolapaaProg.lean LOADS. Nothing in Lean hashes anything: it is a label: what it is worth is what the hold of that sum in a sandbox is worth. -/
noncomputable def Try.pinned : Pinned := { name := "ytmmkeaciaolapaa", sum := "5185698b2708743e974bf0c79ff38c897f0bd474c033012744e551d773dd25e5", checked := Try.checked }
namespace Rows
def none {H : Type} : Left H := { results := [], args := [] }

/-- 'laws.FnGramText': WHATEVER THE INPUT: true; the input reads as it did. -/
def fnGramTextSpec : ChangeSpec := { name := "fnGramText", fn := fun _ => fun
  | [d1, d2] => { results := [.lit (.bool true)], args := [d1, d2] }
  | _ => none }
def fnGramTextRow : OpenClaim := { program := "ytmmkeaciaolapaa", sum := "5185698b2708743e974bf0c79ff38c897f0bd474c033012744e551d773dd25e5", func := "loop.example/construer/laws.FnGramText", spec := "fnGramText", inPlace := ["internal/abi.NoEscape", "internal/bytealg.IndexByteString", "internal/bytealg.IndexString"], unfollowed := true, recurses := true, named := ["internal/bytealg.MaxLen"], apart := false }
def FnGramTextSaid : Prop := fnGramTextRow.holds Try.pinned (OpenSpec.ofChange fnGramTextSpec)

/-- ITS FALSE NEIGHBOUR: 'it returns false'. Refute it at one input. -/
def fnGramTextWrong : ChangeSpec := { name := "fnGramText", fn := fun _ => fun
  | [d1, d2] => { results := [.lit (.bool false)], args := [d1, d2] }
  | _ => none }
def FnGramTextWrongFalsely : Prop := fnGramTextRow.holds Try.pinned (OpenSpec.ofChange fnGramTextWrong)

/-- 'laws.FnGramFor': WHATEVER THE INPUT: true; the input reads as it did. -/
def fnGramForSpec : ChangeSpec := { name := "fnGramFor", fn := fun _ => fun
  | [d] => { results := [.lit (.bool true)], args := [d] }
  | _ => none }
def fnGramForRow : OpenClaim := { program := "ytmmkeaciaolapaa", sum := "5185698b2708743e974bf0c79ff38c897f0bd474c033012744e551d773dd25e5", func := "loop.example/construer/laws.FnGramFor", spec := "fnGramFor", apart := false }
def FnGramForSaid : Prop := fnGramForRow.holds Try.pinned (OpenSpec.ofChange fnGramForSpec)

/-- ITS FALSE NEIGHBOUR: 'it returns false'. Refute it at one input. -/
def fnGramForWrong : ChangeSpec := { name := "fnGramFor", fn := fun _ => fun
  | [d] => { results := [.lit (.bool false)], args := [d] }
  | _ => none }
def FnGramForWrongFalsely : Prop := fnGramForRow.holds Try.pinned (OpenSpec.ofChange fnGramForWrong)

/-- 'laws.FnGramSigns': WHATEVER THE INPUT: true; the input reads as it did. -/
def fnGramSignsSpec : ChangeSpec := { name := "fnGramSigns", fn := fun _ => fun
  | [d] => { results := [.lit (.bool true)], args := [d] }
  | _ => none }
def fnGramSignsRow : OpenClaim := { program := "ytmmkeaciaolapaa", sum := "5185698b2708743e974bf0c79ff38c897f0bd474c033012744e551d773dd25e5", func := "loop.example/construer/laws.FnGramSigns", spec := "fnGramSigns", inPlace := ["internal/abi.NoEscape", "internal/bytealg.IndexByteString"], apart := false }
def FnGramSignsSaid : Prop := fnGramSignsRow.holds Try.pinned (OpenSpec.ofChange fnGramSignsSpec)

/-- ITS FALSE NEIGHBOUR: 'it returns false'. Refute it at one input. -/
def fnGramSignsWrong : ChangeSpec := { name := "fnGramSigns", fn := fun _ => fun
  | [d] => { results := [.lit (.bool false)], args := [d] }
  | _ => none }
def FnGramSignsWrongFalsely : Prop := fnGramSignsRow.holds Try.pinned (OpenSpec.ofChange fnGramSignsWrong)

/-- 'laws.FnGramOnly': WHATEVER THE INPUT: true; the input reads as it did. -/
def fnGramOnlySpec : ChangeSpec := { name := "fnGramOnly", fn := fun _ => fun
  | [d] => { results := [.lit (.bool true)], args := [d] }
  | _ => none }
def fnGramOnlyRow : OpenClaim := { program := "ytmmkeaciaolapaa", sum := "5185698b2708743e974bf0c79ff38c897f0bd474c033012744e551d773dd25e5", func := "loop.example/construer/laws.FnGramOnly", spec := "fnGramOnly", apart := false }
def FnGramOnlySaid : Prop := fnGramOnlyRow.holds Try.pinned (OpenSpec.ofChange fnGramOnlySpec)

/-- ITS FALSE NEIGHBOUR: 'it returns false'. Refute it at one input. -/
def fnGramOnlyWrong : ChangeSpec := { name := "fnGramOnly", fn := fun _ => fun
  | [d] => { results := [.lit (.bool false)], args := [d] }
  | _ => none }
def FnGramOnlyWrongFalsely : Prop := fnGramOnlyRow.holds Try.pinned (OpenSpec.ofChange fnGramOnlyWrong)

/-- 'laws.FnGramSame': WHATEVER THE INPUT: true; the input reads as it did. -/
def fnGramSameSpec : ChangeSpec := { name := "fnGramSame", fn := fun _ => fun
  | [d] => { results := [.lit (.bool true)], args := [d] }
  | _ => none }
def fnGramSameRow : OpenClaim := { program := "ytmmkeaciaolapaa", sum := "5185698b2708743e974bf0c79ff38c897f0bd474c033012744e551d773dd25e5", func := "loop.example/construer/laws.FnGramSame", spec := "fnGramSame", apart := false }
def FnGramSameSaid : Prop := fnGramSameRow.holds Try.pinned (OpenSpec.ofChange fnGramSameSpec)

/-- ITS FALSE NEIGHBOUR: 'it returns false'. Refute it at one input. -/
def fnGramSameWrong : ChangeSpec := { name := "fnGramSame", fn := fun _ => fun
  | [d] => { results := [.lit (.bool false)], args := [d] }
  | _ => none }
def FnGramSameWrongFalsely : Prop := fnGramSameRow.holds Try.pinned (OpenSpec.ofChange fnGramSameWrong)

/-- 'laws.FnGramMore': WHATEVER THE INPUT: true; the input reads as it did. -/
def fnGramMoreSpec : ChangeSpec := { name := "fnGramMore", fn := fun _ => fun
  | [d] => { results := [.lit (.bool true)], args := [d] }
  | _ => none }
def fnGramMoreRow : OpenClaim := { program := "ytmmkeaciaolapaa", sum := "5185698b2708743e974bf0c79ff38c897f0bd474c033012744e551d773dd25e5", func := "loop.example/construer/laws.FnGramMore", spec := "fnGramMore", inPlace := ["internal/abi.NoEscape"], apart := false }
def FnGramMoreSaid : Prop := fnGramMoreRow.holds Try.pinned (OpenSpec.ofChange fnGramMoreSpec)

/-- ITS FALSE NEIGHBOUR: 'it returns false'. Refute it at one input. -/
def fnGramMoreWrong : ChangeSpec := { name := "fnGramMore", fn := fun _ => fun
  | [d] => { results := [.lit (.bool false)], args := [d] }
  | _ => none }
def FnGramMoreWrongFalsely : Prop := fnGramMoreRow.holds Try.pinned (OpenSpec.ofChange fnGramMoreWrong)

/-- 'laws.FnGramStart': WHATEVER THE INPUT: true; the input reads as it did. -/
def fnGramStartSpec : ChangeSpec := { name := "fnGramStart", fn := fun _ => fun
  | [d] => { results := [.lit (.bool true)], args := [d] }
  | _ => none }
def fnGramStartRow : OpenClaim := { program := "ytmmkeaciaolapaa", sum := "5185698b2708743e974bf0c79ff38c897f0bd474c033012744e551d773dd25e5", func := "loop.example/construer/laws.FnGramStart", spec := "fnGramStart", inPlace := ["internal/abi.NoEscape", "internal/bytealg.IndexByteString"], apart := false }
def FnGramStartSaid : Prop := fnGramStartRow.holds Try.pinned (OpenSpec.ofChange fnGramStartSpec)

/-- ITS FALSE NEIGHBOUR: 'it returns false'. Refute it at one input. -/
def fnGramStartWrong : ChangeSpec := { name := "fnGramStart", fn := fun _ => fun
  | [d] => { results := [.lit (.bool false)], args := [d] }
  | _ => none }
def FnGramStartWrongFalsely : Prop := fnGramStartRow.holds Try.pinned (OpenSpec.ofChange fnGramStartWrong)

/-- 'laws.FnGramBent': WHATEVER THE INPUT: true; the input reads as it did. -/
def fnGramBentSpec : ChangeSpec := { name := "fnGramBent", fn := fun _ => fun
  | [d] => { results := [.lit (.bool true)], args := [d] }
  | _ => none }
def fnGramBentRow : OpenClaim := { program := "ytmmkeaciaolapaa", sum := "5185698b2708743e974bf0c79ff38c897f0bd474c033012744e551d773dd25e5", func := "loop.example/construer/laws.FnGramBent", spec := "fnGramBent", inPlace := ["internal/abi.NoEscape", "internal/bytealg.IndexByteString"], apart := false }
def FnGramBentSaid : Prop := fnGramBentRow.holds Try.pinned (OpenSpec.ofChange fnGramBentSpec)

/-- ITS FALSE NEIGHBOUR: 'it returns false'. Refute it at one input. -/
def fnGramBentWrong : ChangeSpec := { name := "fnGramBent", fn := fun _ => fun
  | [d] => { results := [.lit (.bool false)], args := [d] }
  | _ => none }
def FnGramBentWrongFalsely : Prop := fnGramBentRow.holds Try.pinned (OpenSpec.ofChange fnGramBentWrong)

/-- 'laws.FnExactConstants': WHATEVER THE INPUT: true; the input reads as it did. -/
def fnExactConstantsSpec : ChangeSpec := { name := "fnExactConstants", fn := fun _ => fun
  | [] => { results := [.lit (.bool true)], args := [] }
  | _ => none }
def fnExactConstantsRow : OpenClaim := { program := "ytmmkeaciaolapaa", sum := "5185698b2708743e974bf0c79ff38c897f0bd474c033012744e551d773dd25e5", func := "loop.example/construer/laws.FnExactConstants", spec := "fnExactConstants", apart := false }
def FnExactConstantsSaid : Prop := fnExactConstantsRow.holds Try.pinned (OpenSpec.ofChange fnExactConstantsSpec)

/-- ITS FALSE NEIGHBOUR: 'it returns false'. Refute it at one input. -/
def fnExactConstantsWrong : ChangeSpec := { name := "fnExactConstants", fn := fun _ => fun
  | [] => { results := [.lit (.bool false)], args := [] }
  | _ => none }
def FnExactConstantsWrongFalsely : Prop := fnExactConstantsRow.holds Try.pinned (OpenSpec.ofChange fnExactConstantsWrong)

/-- 'laws.FnExactSignBig': WHATEVER THE INPUT: true; the input reads as it did. -/
def fnExactSignBigSpec : ChangeSpec := { name := "fnExactSignBig", fn := fun _ => fun
  | [d] => { results := [.lit (.bool true)], args := [d] }
  | _ => none }
def fnExactSignBigRow : OpenClaim := { program := "ytmmkeaciaolapaa", sum := "5185698b2708743e974bf0c79ff38c897f0bd474c033012744e551d773dd25e5", func := "loop.example/construer/laws.FnExactSignBig", spec := "fnExactSignBig", apart := false }
def FnExactSignBigSaid : Prop := fnExactSignBigRow.holds Try.pinned (OpenSpec.ofChange fnExactSignBigSpec)

/-- ITS FALSE NEIGHBOUR: 'it returns false'. Refute it at one input. -/
def fnExactSignBigWrong : ChangeSpec := { name := "fnExactSignBig", fn := fun _ => fun
  | [d] => { results := [.lit (.bool false)], args := [d] }
  | _ => none }
def FnExactSignBigWrongFalsely : Prop := fnExactSignBigRow.holds Try.pinned (OpenSpec.ofChange fnExactSignBigWrong)

/-- 'laws.FnExactSignSmall': WHATEVER THE INPUT: true; the input reads as it did. -/
def fnExactSignSmallSpec : ChangeSpec := { name := "fnExactSignSmall", fn := fun _ => fun
  | [d] => { results := [.lit (.bool true)], args := [d] }
  | _ => none }
def fnExactSignSmallRow : OpenClaim := { program := "ytmmkeaciaolapaa", sum := "5185698b2708743e974bf0c79ff38c897f0bd474c033012744e551d773dd25e5", func := "loop.example/construer/laws.FnExactSignSmall", spec := "fnExactSignSmall", apart := false }
def FnExactSignSmallSaid : Prop := fnExactSignSmallRow.holds Try.pinned (OpenSpec.ofChange fnExactSignSmallSpec)

/-- ITS FALSE NEIGHBOUR: 'it returns false'. Refute it at one input. -/
def fnExactSignSmallWrong : ChangeSpec := { name := "fnExactSignSmall", fn := fun _ => fun
  | [d] => { results := [.lit (.bool false)], args := [d] }
  | _ => none }
def FnExactSignSmallWrongFalsely : Prop := fnExactSignSmallRow.holds Try.pinned (OpenSpec.ofChange fnExactSignSmallWrong)

/-- 'laws.FnExactGramOk': WHATEVER THE INPUT: true; the input reads as it did. -/
def fnExactGramOkSpec : ChangeSpec := { name := "fnExactGramOk", fn := fun _ => fun
  | [d] => { results := [.lit (.bool true)], args := [d] }
  | _ => none }
def fnExactGramOkRow : OpenClaim := { program := "ytmmkeaciaolapaa", sum := "5185698b2708743e974bf0c79ff38c897f0bd474c033012744e551d773dd25e5", func := "loop.example/construer/laws.FnExactGramOk", spec := "fnExactGramOk", apart := false }
def FnExactGramOkSaid : Prop := fnExactGramOkRow.holds Try.pinned (OpenSpec.ofChange fnExactGramOkSpec)

/-- ITS FALSE NEIGHBOUR: 'it returns false'. Refute it at one input. -/
def fnExactGramOkWrong : ChangeSpec := { name := "fnExactGramOk", fn := fun _ => fun
  | [d] => { results := [.lit (.bool false)], args := [d] }
  | _ => none }
def FnExactGramOkWrongFalsely : Prop := fnExactGramOkRow.holds Try.pinned (OpenSpec.ofChange fnExactGramOkWrong)

/- THE SECOND FORM. 'bulk': how many values and letters a reading holds, each counted each time it is reached (what is shared counts as often as it is met; a slice's spare places count too). A statement '..UptoSaid' is the law's where the arguments, and the package variables that the reading takes, are together of bulk at most 1048576: NARROWER than '..Said'. Prove '..Said' where nothing that the law and all that it calls make is longer than what came in: it says more and counts as full. Else prove '..UptoSaid'. A law counts once. -/
mutual
def uptoBulk {H : Type} : DataW H → Nat
  | .lit (.string bytes) => bytes.length + 1
  | .lit _ => 1
  | .nil => 1
  | .ptr d => uptoBulk d + 1
  | .slice elems spare => uptoBulkAll elems + uptoBulkAll spare + 1
  | .agg parts => uptoBulkAll parts + 1
  | .iface _ d => uptoBulk d + 1
  | .map entries => uptoBulkEntries entries + 1
  | .held _ => 1
def uptoBulkAll {H : Type} : List (DataW H) → Nat
  | [] => 0
  | d :: r => uptoBulk d + uptoBulkAll r
def uptoBulkEntries {H : Type} : List (Lit × DataW H) → Nat
  | [] => 0
  | x :: r => uptoBulkEntry x + uptoBulkEntries r
def uptoBulkEntry {H : Type} : Lit × DataW H → Nat
  | (.string bytes, d) => bytes.length + uptoBulk d + 1
  | (_, d) => uptoBulk d + 1
 end
def uptoSmall : (H : Type) → List (DataW H) → Bool := fun _ ds => decide (uptoBulkAll ds ≤ 1048576)
def OpenSpec.upto (s : _root_.Go.ChangeSpec) : _root_.Go.OpenSpec := { _root_.Go.OpenSpec.ofChange s with cond := some uptoSmall }

/-- 'laws.FnGramText', WHERE WHAT IT READS IS OF BULK AT MOST 1048576: true; the input reads as it did. -/
def fnGramTextUptoRow : OpenClaim := { program := "ytmmkeaciaolapaa", sum := "5185698b2708743e974bf0c79ff38c897f0bd474c033012744e551d773dd25e5", func := "loop.example/construer/laws.FnGramText", spec := "fnGramText", inPlace := ["internal/abi.NoEscape", "internal/bytealg.IndexByteString", "internal/bytealg.IndexString"], unfollowed := true, recurses := true, named := ["internal/bytealg.MaxLen"], apart := false, narrowed := true }
def FnGramTextUptoSaid : Prop := fnGramTextUptoRow.holds Try.pinned (OpenSpec.upto fnGramTextSpec)

/-- 'laws.FnGramFor', WHERE WHAT IT READS IS OF BULK AT MOST 1048576: true; the input reads as it did. -/
def fnGramForUptoRow : OpenClaim := { program := "ytmmkeaciaolapaa", sum := "5185698b2708743e974bf0c79ff38c897f0bd474c033012744e551d773dd25e5", func := "loop.example/construer/laws.FnGramFor", spec := "fnGramFor", apart := false, narrowed := true }
def FnGramForUptoSaid : Prop := fnGramForUptoRow.holds Try.pinned (OpenSpec.upto fnGramForSpec)

/-- 'laws.FnGramSigns', WHERE WHAT IT READS IS OF BULK AT MOST 1048576: true; the input reads as it did. -/
def fnGramSignsUptoRow : OpenClaim := { program := "ytmmkeaciaolapaa", sum := "5185698b2708743e974bf0c79ff38c897f0bd474c033012744e551d773dd25e5", func := "loop.example/construer/laws.FnGramSigns", spec := "fnGramSigns", inPlace := ["internal/abi.NoEscape", "internal/bytealg.IndexByteString"], apart := false, narrowed := true }
def FnGramSignsUptoSaid : Prop := fnGramSignsUptoRow.holds Try.pinned (OpenSpec.upto fnGramSignsSpec)

/-- 'laws.FnGramOnly', WHERE WHAT IT READS IS OF BULK AT MOST 1048576: true; the input reads as it did. -/
def fnGramOnlyUptoRow : OpenClaim := { program := "ytmmkeaciaolapaa", sum := "5185698b2708743e974bf0c79ff38c897f0bd474c033012744e551d773dd25e5", func := "loop.example/construer/laws.FnGramOnly", spec := "fnGramOnly", apart := false, narrowed := true }
def FnGramOnlyUptoSaid : Prop := fnGramOnlyUptoRow.holds Try.pinned (OpenSpec.upto fnGramOnlySpec)

/-- 'laws.FnGramSame', WHERE WHAT IT READS IS OF BULK AT MOST 1048576: true; the input reads as it did. -/
def fnGramSameUptoRow : OpenClaim := { program := "ytmmkeaciaolapaa", sum := "5185698b2708743e974bf0c79ff38c897f0bd474c033012744e551d773dd25e5", func := "loop.example/construer/laws.FnGramSame", spec := "fnGramSame", apart := false, narrowed := true }
def FnGramSameUptoSaid : Prop := fnGramSameUptoRow.holds Try.pinned (OpenSpec.upto fnGramSameSpec)

/-- 'laws.FnGramMore', WHERE WHAT IT READS IS OF BULK AT MOST 1048576: true; the input reads as it did. -/
def fnGramMoreUptoRow : OpenClaim := { program := "ytmmkeaciaolapaa", sum := "5185698b2708743e974bf0c79ff38c897f0bd474c033012744e551d773dd25e5", func := "loop.example/construer/laws.FnGramMore", spec := "fnGramMore", inPlace := ["internal/abi.NoEscape"], apart := false, narrowed := true }
def FnGramMoreUptoSaid : Prop := fnGramMoreUptoRow.holds Try.pinned (OpenSpec.upto fnGramMoreSpec)

/-- 'laws.FnGramStart', WHERE WHAT IT READS IS OF BULK AT MOST 1048576: true; the input reads as it did. -/
def fnGramStartUptoRow : OpenClaim := { program := "ytmmkeaciaolapaa", sum := "5185698b2708743e974bf0c79ff38c897f0bd474c033012744e551d773dd25e5", func := "loop.example/construer/laws.FnGramStart", spec := "fnGramStart", inPlace := ["internal/abi.NoEscape", "internal/bytealg.IndexByteString"], apart := false, narrowed := true }
def FnGramStartUptoSaid : Prop := fnGramStartUptoRow.holds Try.pinned (OpenSpec.upto fnGramStartSpec)

/-- 'laws.FnGramBent', WHERE WHAT IT READS IS OF BULK AT MOST 1048576: true; the input reads as it did. -/
def fnGramBentUptoRow : OpenClaim := { program := "ytmmkeaciaolapaa", sum := "5185698b2708743e974bf0c79ff38c897f0bd474c033012744e551d773dd25e5", func := "loop.example/construer/laws.FnGramBent", spec := "fnGramBent", inPlace := ["internal/abi.NoEscape", "internal/bytealg.IndexByteString"], apart := false, narrowed := true }
def FnGramBentUptoSaid : Prop := fnGramBentUptoRow.holds Try.pinned (OpenSpec.upto fnGramBentSpec)

/-- 'laws.FnExactConstants', WHERE WHAT IT READS IS OF BULK AT MOST 1048576: true; the input reads as it did. -/
def fnExactConstantsUptoRow : OpenClaim := { program := "ytmmkeaciaolapaa", sum := "5185698b2708743e974bf0c79ff38c897f0bd474c033012744e551d773dd25e5", func := "loop.example/construer/laws.FnExactConstants", spec := "fnExactConstants", apart := false, narrowed := true }
def FnExactConstantsUptoSaid : Prop := fnExactConstantsUptoRow.holds Try.pinned (OpenSpec.upto fnExactConstantsSpec)

/-- 'laws.FnExactSignBig', WHERE WHAT IT READS IS OF BULK AT MOST 1048576: true; the input reads as it did. -/
def fnExactSignBigUptoRow : OpenClaim := { program := "ytmmkeaciaolapaa", sum := "5185698b2708743e974bf0c79ff38c897f0bd474c033012744e551d773dd25e5", func := "loop.example/construer/laws.FnExactSignBig", spec := "fnExactSignBig", apart := false, narrowed := true }
def FnExactSignBigUptoSaid : Prop := fnExactSignBigUptoRow.holds Try.pinned (OpenSpec.upto fnExactSignBigSpec)

/-- 'laws.FnExactSignSmall', WHERE WHAT IT READS IS OF BULK AT MOST 1048576: true; the input reads as it did. -/
def fnExactSignSmallUptoRow : OpenClaim := { program := "ytmmkeaciaolapaa", sum := "5185698b2708743e974bf0c79ff38c897f0bd474c033012744e551d773dd25e5", func := "loop.example/construer/laws.FnExactSignSmall", spec := "fnExactSignSmall", apart := false, narrowed := true }
def FnExactSignSmallUptoSaid : Prop := fnExactSignSmallUptoRow.holds Try.pinned (OpenSpec.upto fnExactSignSmallSpec)

/-- 'laws.FnExactGramOk', WHERE WHAT IT READS IS OF BULK AT MOST 1048576: true; the input reads as it did. -/
def fnExactGramOkUptoRow : OpenClaim := { program := "ytmmkeaciaolapaa", sum := "5185698b2708743e974bf0c79ff38c897f0bd474c033012744e551d773dd25e5", func := "loop.example/construer/laws.FnExactGramOk", spec := "fnExactGramOk", apart := false, narrowed := true }
def FnExactGramOkUptoSaid : Prop := fnExactGramOkUptoRow.holds Try.pinned (OpenSpec.upto fnExactGramOkSpec)

end Rows
end Go.Proofs.Ytmmkeaciaolapaa
