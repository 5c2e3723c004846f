/-
  DERIVED. GIVEN WITH THE SEED: THE CARDS: each row of YtpkejcjjbkgomaaGreatDoorRows.lean that lists a variable, with what it lists TIED to the program's text (the seventh form; the later family's looks); each row that meets fmt, with fmt's text TOLD by the authors' own Lean function (tested against real Go, not proved from fmt's source: count such statements apart). THE CARD IS WHAT COUNTS. Prove the row's statement (the work); the ties are given (YtpkejcjjbkgomaaGreatDoorTie.lean); close each card by the builder's one call (the guide's Derived/Test/ToyasCard.lean, 'card_holds'). Laid BY PROGRAM, IN A SANDBOX (cutbox-door.mjs). By AI agents, Wed Nov 11 2026. No macro, syntax, notation, axiom, sorry.
-/
import Derived.Test.YtpkejcjjbkgomaaGreatDoorRows
import GoSem.ClaimSeven
namespace Go.Proofs.YtpkejcjjbkgomaaGreatDoor
namespace Rows

/-- THE TIED CARD OF 'laws.FnTreeSmall'. -/
def fnTreeSmallCard : Claim7 := { stood := { row := fnTreeSmallRow, standIns := [], harness := (true, "4e0488c0961474112c4769a6738d3d3ef0a2aebe710184c30084bf4f6e43166b"), looks := true }, kinds := [], alts := [], laidByText := true, laidKinds := [.data, .data, .data, .sentinel, .sentinel], laidTests := true, laidLooks := .later }
def FnTreeSmallCardSaid : Prop := Claim7.holds Tryz.pinned (.plain (OpenSpec.ofChange fnTreeSmallSpec)) fnTreeSmallCard

/-- THE TIED CARD OF 'laws.FnRunBent'. -/
def fnRunBentCard : Claim7 := { stood := { row := fnRunBentRow, standIns := [], harness := (true, "4e0488c0961474112c4769a6738d3d3ef0a2aebe710184c30084bf4f6e43166b"), looks := true }, kinds := [], alts := [], laidByText := true, laidKinds := [.data, .data, .data, .handle, .sentinel], laidTests := true, laidLooks := .later }
def FnRunBentCardSaid : Prop := Claim7.holds Tryz.pinned (.plain (OpenSpec.ofChange fnRunBentSpec)) fnRunBentCard

/-- THE SECOND FORM's CARD OF 'laws.FnTreeSmall'. -/
def fnTreeSmallUptoCard : Claim7 := { stood := { row := fnTreeSmallUptoRow, standIns := [], harness := (true, "4e0488c0961474112c4769a6738d3d3ef0a2aebe710184c30084bf4f6e43166b"), looks := true }, kinds := [], alts := [], laidByText := true, laidKinds := [.data, .data, .data, .sentinel, .sentinel], laidTests := true, laidLooks := .later }
def FnTreeSmallUptoCardSaid : Prop := Claim7.holds Tryz.pinned (.plain (OpenSpec.upto fnTreeSmallSpec)) fnTreeSmallUptoCard

/-- THE SECOND FORM's CARD OF 'laws.FnRunBent'. -/
def fnRunBentUptoCard : Claim7 := { stood := { row := fnRunBentUptoRow, standIns := [], harness := (true, "4e0488c0961474112c4769a6738d3d3ef0a2aebe710184c30084bf4f6e43166b"), looks := true }, kinds := [], alts := [], laidByText := true, laidKinds := [.data, .data, .data, .handle, .sentinel], laidTests := true, laidLooks := .later }
def FnRunBentUptoCardSaid : Prop := Claim7.holds Tryz.pinned (.plain (OpenSpec.upto fnRunBentSpec)) fnRunBentUptoCard
end Rows
end Go.Proofs.YtpkejcjjbkgomaaGreatDoor
