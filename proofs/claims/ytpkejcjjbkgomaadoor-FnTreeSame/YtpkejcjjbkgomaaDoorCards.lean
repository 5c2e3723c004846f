/-
  DERIVED. GIVEN WITH THE SEED: THE CARDS: each row of YtpkejcjjbkgomaaDoorRows.lean that lists a variable, with what it lists TIED to the program's text (the seventh form; the later family's looks); each row that meets fmt, with fmt's text TOLD by the authors' own Lean function (tested against real Go, not proved from fmt's source: count such statements apart). THE CARD IS WHAT COUNTS. Prove the row's statement (the work); the ties are given (YtpkejcjjbkgomaaDoorTie.lean); close each card by the builder's one call (the guide's Derived/Test/ToyasCard.lean, 'card_holds'). Laid BY PROGRAM, IN A SANDBOX (cutbox-door.mjs). By AI agents, Wed Nov 11 2026. No macro, syntax, notation, axiom, sorry.
-/
import Derived.Test.YtpkejcjjbkgomaaDoorRows
import GoSem.ClaimSeven
namespace Go.Proofs.YtpkejcjjbkgomaaDoor
namespace Rows

/-- THE TIED CARD OF 'laws.FnExactTreeSame'. -/
def fnExactTreeSameCard : Claim7 := { stood := { row := fnExactTreeSameRow, standIns := [], harness := (true, "f5f11412a68d9d630eda5f5d2c40681187b33549f2352813b949ac417ffc5a4b"), looks := false }, kinds := [], alts := [], laidByText := true, laidKinds := [.data, .data, .data], laidTests := true, laidLooks := .later }
def FnExactTreeSameCardSaid : Prop := Claim7.holds Tryd.pinned (.plain (OpenSpec.ofChange fnExactTreeSameSpec)) fnExactTreeSameCard

/-- THE TIED CARD OF 'laws.FnExactTreeParts'. -/
def fnExactTreePartsCard : Claim7 := { stood := { row := fnExactTreePartsRow, standIns := [], harness := (true, "f5f11412a68d9d630eda5f5d2c40681187b33549f2352813b949ac417ffc5a4b"), looks := false }, kinds := [], alts := [], laidByText := true, laidKinds := [.data, .data, .data], laidTests := true, laidLooks := .later }
def FnExactTreePartsCardSaid : Prop := Claim7.holds Tryd.pinned (.plain (OpenSpec.ofChange fnExactTreePartsSpec)) fnExactTreePartsCard

/-- THE TIED CARD OF 'laws.FnExactTreeFind'. -/
def fnExactTreeFindCard : Claim7 := { stood := { row := fnExactTreeFindRow, standIns := [], harness := (true, "f5f11412a68d9d630eda5f5d2c40681187b33549f2352813b949ac417ffc5a4b"), looks := false }, kinds := [], alts := [], laidByText := true, laidKinds := [.data, .data, .data], laidTests := true, laidLooks := .later }
def FnExactTreeFindCardSaid : Prop := Claim7.holds Tryd.pinned (.plain (OpenSpec.ofChange fnExactTreeFindSpec)) fnExactTreeFindCard

/-- THE TIED CARD OF 'laws.FnExactKeepMany'. -/
def fnExactKeepManyCard : Claim7 := { stood := { row := fnExactKeepManyRow, standIns := [], harness := (true, "f5f11412a68d9d630eda5f5d2c40681187b33549f2352813b949ac417ffc5a4b"), looks := false }, kinds := [], alts := [], laidByText := true, laidKinds := [.data, .data, .data], laidTests := true, laidLooks := .later }
def FnExactKeepManyCardSaid : Prop := Claim7.holds Tryd.pinned (.plain (OpenSpec.ofChange fnExactKeepManySpec)) fnExactKeepManyCard

/-- THE TIED CARD OF 'laws.FnTreeSame'. -/
def fnTreeSameCard : Claim7 := { stood := { row := fnTreeSameRow, standIns := [], harness := (true, "f5f11412a68d9d630eda5f5d2c40681187b33549f2352813b949ac417ffc5a4b"), looks := false }, kinds := [], alts := [], laidByText := true, laidKinds := [.data, .data, .data], laidTests := true, laidLooks := .later }
def FnTreeSameCardSaid : Prop := Claim7.holds Tryd.pinned (.plain (OpenSpec.ofChange fnTreeSameSpec)) fnTreeSameCard

/-- THE TIED CARD OF 'laws.FnTreeParts'. -/
def fnTreePartsCard : Claim7 := { stood := { row := fnTreePartsRow, standIns := [], harness := (true, "f5f11412a68d9d630eda5f5d2c40681187b33549f2352813b949ac417ffc5a4b"), looks := false }, kinds := [], alts := [], laidByText := true, laidKinds := [.data, .data, .data], laidTests := true, laidLooks := .later }
def FnTreePartsCardSaid : Prop := Claim7.holds Tryd.pinned (.plain (OpenSpec.ofChange fnTreePartsSpec)) fnTreePartsCard

/-- THE TIED CARD OF 'laws.FnTreeFind'. -/
def fnTreeFindCard : Claim7 := { stood := { row := fnTreeFindRow, standIns := [], harness := (true, "f5f11412a68d9d630eda5f5d2c40681187b33549f2352813b949ac417ffc5a4b"), looks := false }, kinds := [], alts := [], laidByText := true, laidKinds := [.data, .data, .data], laidTests := true, laidLooks := .later }
def FnTreeFindCardSaid : Prop := Claim7.holds Tryd.pinned (.plain (OpenSpec.ofChange fnTreeFindSpec)) fnTreeFindCard

/-- THE TIED CARD OF 'laws.FnKeepAll'. -/
def fnKeepAllCard : Claim7 := { stood := { row := fnKeepAllRow, standIns := [], harness := (true, "f5f11412a68d9d630eda5f5d2c40681187b33549f2352813b949ac417ffc5a4b"), looks := false }, kinds := [], alts := [], laidByText := true, laidKinds := [.data, .data, .data], laidTests := true, laidLooks := .later }
def FnKeepAllCardSaid : Prop := Claim7.holds Tryd.pinned (.plain (OpenSpec.ofChange fnKeepAllSpec)) fnKeepAllCard

/-- THE TIED CARD OF 'laws.FnStepsOf'. -/
def fnStepsOfCard : Claim7 := { stood := { row := fnStepsOfRow, standIns := [], harness := (true, "f5f11412a68d9d630eda5f5d2c40681187b33549f2352813b949ac417ffc5a4b"), looks := false }, kinds := [], alts := [], laidByText := true, laidKinds := [.data, .data, .data], laidTests := true, laidLooks := .later }
def FnStepsOfCardSaid : Prop := Claim7.holds Tryd.pinned (.plain (OpenSpec.ofChange fnStepsOfSpec)) fnStepsOfCard

/-- THE SECOND FORM's CARD OF 'laws.FnExactTreeSame'. -/
def fnExactTreeSameUptoCard : Claim7 := { stood := { row := fnExactTreeSameUptoRow, standIns := [], harness := (true, "f5f11412a68d9d630eda5f5d2c40681187b33549f2352813b949ac417ffc5a4b"), looks := false }, kinds := [], alts := [], laidByText := true, laidKinds := [.data, .data, .data], laidTests := true, laidLooks := .later }
def FnExactTreeSameUptoCardSaid : Prop := Claim7.holds Tryd.pinned (.plain (OpenSpec.upto fnExactTreeSameSpec)) fnExactTreeSameUptoCard

/-- THE SECOND FORM's CARD OF 'laws.FnExactTreeParts'. -/
def fnExactTreePartsUptoCard : Claim7 := { stood := { row := fnExactTreePartsUptoRow, standIns := [], harness := (true, "f5f11412a68d9d630eda5f5d2c40681187b33549f2352813b949ac417ffc5a4b"), looks := false }, kinds := [], alts := [], laidByText := true, laidKinds := [.data, .data, .data], laidTests := true, laidLooks := .later }
def FnExactTreePartsUptoCardSaid : Prop := Claim7.holds Tryd.pinned (.plain (OpenSpec.upto fnExactTreePartsSpec)) fnExactTreePartsUptoCard

/-- THE SECOND FORM's CARD OF 'laws.FnExactTreeFind'. -/
def fnExactTreeFindUptoCard : Claim7 := { stood := { row := fnExactTreeFindUptoRow, standIns := [], harness := (true, "f5f11412a68d9d630eda5f5d2c40681187b33549f2352813b949ac417ffc5a4b"), looks := false }, kinds := [], alts := [], laidByText := true, laidKinds := [.data, .data, .data], laidTests := true, laidLooks := .later }
def FnExactTreeFindUptoCardSaid : Prop := Claim7.holds Tryd.pinned (.plain (OpenSpec.upto fnExactTreeFindSpec)) fnExactTreeFindUptoCard

/-- THE SECOND FORM's CARD OF 'laws.FnExactKeepMany'. -/
def fnExactKeepManyUptoCard : Claim7 := { stood := { row := fnExactKeepManyUptoRow, standIns := [], harness := (true, "f5f11412a68d9d630eda5f5d2c40681187b33549f2352813b949ac417ffc5a4b"), looks := false }, kinds := [], alts := [], laidByText := true, laidKinds := [.data, .data, .data], laidTests := true, laidLooks := .later }
def FnExactKeepManyUptoCardSaid : Prop := Claim7.holds Tryd.pinned (.plain (OpenSpec.upto fnExactKeepManySpec)) fnExactKeepManyUptoCard

/-- THE SECOND FORM's CARD OF 'laws.FnTreeSame'. -/
def fnTreeSameUptoCard : Claim7 := { stood := { row := fnTreeSameUptoRow, standIns := [], harness := (true, "f5f11412a68d9d630eda5f5d2c40681187b33549f2352813b949ac417ffc5a4b"), looks := false }, kinds := [], alts := [], laidByText := true, laidKinds := [.data, .data, .data], laidTests := true, laidLooks := .later }
def FnTreeSameUptoCardSaid : Prop := Claim7.holds Tryd.pinned (.plain (OpenSpec.upto fnTreeSameSpec)) fnTreeSameUptoCard

/-- THE SECOND FORM's CARD OF 'laws.FnTreeParts'. -/
def fnTreePartsUptoCard : Claim7 := { stood := { row := fnTreePartsUptoRow, standIns := [], harness := (true, "f5f11412a68d9d630eda5f5d2c40681187b33549f2352813b949ac417ffc5a4b"), looks := false }, kinds := [], alts := [], laidByText := true, laidKinds := [.data, .data, .data], laidTests := true, laidLooks := .later }
def FnTreePartsUptoCardSaid : Prop := Claim7.holds Tryd.pinned (.plain (OpenSpec.upto fnTreePartsSpec)) fnTreePartsUptoCard

/-- THE SECOND FORM's CARD OF 'laws.FnTreeFind'. -/
def fnTreeFindUptoCard : Claim7 := { stood := { row := fnTreeFindUptoRow, standIns := [], harness := (true, "f5f11412a68d9d630eda5f5d2c40681187b33549f2352813b949ac417ffc5a4b"), looks := false }, kinds := [], alts := [], laidByText := true, laidKinds := [.data, .data, .data], laidTests := true, laidLooks := .later }
def FnTreeFindUptoCardSaid : Prop := Claim7.holds Tryd.pinned (.plain (OpenSpec.upto fnTreeFindSpec)) fnTreeFindUptoCard

/-- THE SECOND FORM's CARD OF 'laws.FnKeepAll'. -/
def fnKeepAllUptoCard : Claim7 := { stood := { row := fnKeepAllUptoRow, standIns := [], harness := (true, "f5f11412a68d9d630eda5f5d2c40681187b33549f2352813b949ac417ffc5a4b"), looks := false }, kinds := [], alts := [], laidByText := true, laidKinds := [.data, .data, .data], laidTests := true, laidLooks := .later }
def FnKeepAllUptoCardSaid : Prop := Claim7.holds Tryd.pinned (.plain (OpenSpec.upto fnKeepAllSpec)) fnKeepAllUptoCard

/-- THE SECOND FORM's CARD OF 'laws.FnStepsOf'. -/
def fnStepsOfUptoCard : Claim7 := { stood := { row := fnStepsOfUptoRow, standIns := [], harness := (true, "f5f11412a68d9d630eda5f5d2c40681187b33549f2352813b949ac417ffc5a4b"), looks := false }, kinds := [], alts := [], laidByText := true, laidKinds := [.data, .data, .data], laidTests := true, laidLooks := .later }
def FnStepsOfUptoCardSaid : Prop := Claim7.holds Tryd.pinned (.plain (OpenSpec.upto fnStepsOfSpec)) fnStepsOfUptoCard
end Rows
end Go.Proofs.YtpkejcjjbkgomaaDoor
