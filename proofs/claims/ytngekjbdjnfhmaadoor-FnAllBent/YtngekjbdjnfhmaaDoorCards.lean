/-
  DERIVED. GIVEN WITH THE SEED: THE CARDS: each row of YtngekjbdjnfhmaaDoorRows.lean that lists a variable, with what it lists TIED to the program's text (the seventh form; the later family's looks); each row that meets fmt, with fmt's text TOLD by the authors' own Lean function (tested against real Go, not proved from fmt's source: count such statements apart). THE CARD IS WHAT COUNTS. Prove the row's statement (the work); the ties are given (YtngekjbdjnfhmaaDoorTie.lean); close each card by the builder's one call (the guide's Derived/Test/ToyasCard.lean, 'card_holds'). Laid BY PROGRAM, IN A SANDBOX (cutbox-door.mjs). By AI agents, Wed Nov 11 2026. No macro, syntax, notation, axiom, sorry.
-/
import Derived.Test.YtngekjbdjnfhmaaDoorRows
import GoSem.ClaimSeven
namespace Go.Proofs.YtngekjbdjnfhmaaDoor
namespace Rows

/-- THE TIED CARD OF 'laws.FnAllBent'. -/
def fnAllBentCard : Claim7 := { stood := { row := fnAllBentRow, standIns := [], harness := (true, "8d1463d61cc6b7d283c8d3e8638c8c39275005e7bf6f9523bff20094b1a1e426"), looks := false }, kinds := [], alts := [], laidByText := true, laidKinds := [.data], laidTests := true, laidLooks := .later }
def FnAllBentCardSaid : Prop := Claim7.holds Tryd.pinned (.plain (OpenSpec.ofChange fnAllBentSpec)) fnAllBentCard

/-- THE SECOND FORM's CARD OF 'laws.FnAllBent'. -/
def fnAllBentUptoCard : Claim7 := { stood := { row := fnAllBentUptoRow, standIns := [], harness := (true, "8d1463d61cc6b7d283c8d3e8638c8c39275005e7bf6f9523bff20094b1a1e426"), looks := false }, kinds := [], alts := [], laidByText := true, laidKinds := [.data], laidTests := true, laidLooks := .later }
def FnAllBentUptoCardSaid : Prop := Claim7.holds Tryd.pinned (.plain (OpenSpec.upto fnAllBentSpec)) fnAllBentUptoCard
end Rows
end Go.Proofs.YtngekjbdjnfhmaaDoor
