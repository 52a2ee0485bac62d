/-
  DERIVED. GIVEN WITH THE SEED: THE CARDS: each row of YtnnaigoomipklaaGreatDoorRows.lean that lists a variable, with what it lists TIED to the program's text (the seventh form; the later family's looks); each row that meets fmt, with fmt's text TOLD by the authors' own Lean function (tested against real Go, not proved from fmt's source: count such statements apart). THE CARD IS WHAT COUNTS. Prove the row's statement (the work); the ties are given (YtnnaigoomipklaaGreatDoorTie.lean); close each card by the builder's one call (the guide's Derived/Test/ToyasCard.lean, 'card_holds'). Laid BY PROGRAM, IN A SANDBOX (cutbox-door.mjs). By AI agents, Wed Nov 11 2026. No macro, syntax, notation, axiom, sorry.
-/
import Derived.Test.YtnnaigoomipklaaGreatDoorRows
import GoSem.ClaimSeven
namespace Go.Proofs.YtnnaigoomipklaaGreatDoor
namespace Rows

/-- THE TIED CARD OF 'laws.FnOrders'. -/
def fnOrdersCard : Claim7 := { stood := { row := fnOrdersRow, standIns := [], harness := (true, "010811a82e7b2bc47e0dc6ddeec2cee26996500ac4c94d13c661459fb5114444"), looks := true }, kinds := [], alts := [], laidByText := true, laidKinds := [.data, .data, .data, .sentinel, .sentinel, .data], laidTests := true, laidLooks := .later }
def FnOrdersCardSaid : Prop := Claim7.holds Tryz.pinned (.plain (OpenSpec.ofChange fnOrdersSpec)) fnOrdersCard

/-- THE TIED CARD OF 'laws.FnEd'. -/
def fnEdCard : Claim7 := { stood := { row := fnEdRow, standIns := [], harness := (true, "010811a82e7b2bc47e0dc6ddeec2cee26996500ac4c94d13c661459fb5114444"), looks := true }, kinds := [], alts := [], laidByText := true, laidKinds := [.data, .data, .data, .data], laidTests := true, laidLooks := .later }
def FnEdCardSaid : Prop := Claim7.holds Tryz.pinned (.plain (OpenSpec.ofChange fnEdSpec)) fnEdCard

/-- THE TIED CARD OF 'laws.FnExactReadOrders'. -/
def fnExactReadOrdersCard : Claim7 := { stood := { row := fnExactReadOrdersRow, standIns := [], harness := (true, "010811a82e7b2bc47e0dc6ddeec2cee26996500ac4c94d13c661459fb5114444"), looks := true }, kinds := [], alts := [], laidByText := true, laidKinds := [.data, .data, .data, .sentinel, .sentinel, .data], laidTests := true, laidLooks := .later }
def FnExactReadOrdersCardSaid : Prop := Claim7.holds Tryz.pinned (.plain (OpenSpec.ofChange fnExactReadOrdersSpec)) fnExactReadOrdersCard

/-- THE TIED CARD OF 'laws.FnSteps'. -/
def fnStepsCard : Claim7 := { stood := { row := fnStepsRow, standIns := [], harness := (true, "010811a82e7b2bc47e0dc6ddeec2cee26996500ac4c94d13c661459fb5114444"), looks := true }, kinds := [], alts := [], laidByText := true, laidKinds := [.data, .data, .data, .sentinel, .sentinel], laidTests := true, laidLooks := .later }
def FnStepsCardSaid : Prop := Claim7.holds Tryz.pinned (.plain (OpenSpec.ofChange fnStepsSpec)) fnStepsCard

/-- THE TIED CARD OF 'laws.FnNormal'. -/
def fnNormalCard : Claim7 := { stood := { row := fnNormalRow, standIns := [], harness := (true, "010811a82e7b2bc47e0dc6ddeec2cee26996500ac4c94d13c661459fb5114444"), looks := true }, kinds := [], alts := [], laidByText := true, laidKinds := [.data, .data, .data], laidTests := true, laidLooks := .later }
def FnNormalCardSaid : Prop := Claim7.holds Tryz.pinned (.plain (OpenSpec.ofChange fnNormalSpec)) fnNormalCard

/-- THE TIED CARD OF 'laws.FnExactReadNormal'. -/
def fnExactReadNormalCard : Claim7 := { stood := { row := fnExactReadNormalRow, standIns := [], harness := (true, "010811a82e7b2bc47e0dc6ddeec2cee26996500ac4c94d13c661459fb5114444"), looks := true }, kinds := [], alts := [], laidByText := true, laidKinds := [.data, .data, .data, .sentinel, .sentinel], laidTests := true, laidLooks := .later }
def FnExactReadNormalCardSaid : Prop := Claim7.holds Tryz.pinned (.plain (OpenSpec.ofChange fnExactReadNormalSpec)) fnExactReadNormalCard

/-- THE SECOND FORM's CARD OF 'laws.FnOrders'. -/
def fnOrdersUptoCard : Claim7 := { stood := { row := fnOrdersUptoRow, standIns := [], harness := (true, "010811a82e7b2bc47e0dc6ddeec2cee26996500ac4c94d13c661459fb5114444"), looks := true }, kinds := [], alts := [], laidByText := true, laidKinds := [.data, .data, .data, .sentinel, .sentinel, .data], laidTests := true, laidLooks := .later }
def FnOrdersUptoCardSaid : Prop := Claim7.holds Tryz.pinned (.plain (OpenSpec.upto fnOrdersSpec)) fnOrdersUptoCard

/-- THE SECOND FORM's CARD OF 'laws.FnEd'. -/
def fnEdUptoCard : Claim7 := { stood := { row := fnEdUptoRow, standIns := [], harness := (true, "010811a82e7b2bc47e0dc6ddeec2cee26996500ac4c94d13c661459fb5114444"), looks := true }, kinds := [], alts := [], laidByText := true, laidKinds := [.data, .data, .data, .data], laidTests := true, laidLooks := .later }
def FnEdUptoCardSaid : Prop := Claim7.holds Tryz.pinned (.plain (OpenSpec.upto fnEdSpec)) fnEdUptoCard

/-- THE SECOND FORM's CARD OF 'laws.FnExactReadOrders'. -/
def fnExactReadOrdersUptoCard : Claim7 := { stood := { row := fnExactReadOrdersUptoRow, standIns := [], harness := (true, "010811a82e7b2bc47e0dc6ddeec2cee26996500ac4c94d13c661459fb5114444"), looks := true }, kinds := [], alts := [], laidByText := true, laidKinds := [.data, .data, .data, .sentinel, .sentinel, .data], laidTests := true, laidLooks := .later }
def FnExactReadOrdersUptoCardSaid : Prop := Claim7.holds Tryz.pinned (.plain (OpenSpec.upto fnExactReadOrdersSpec)) fnExactReadOrdersUptoCard

/-- THE SECOND FORM's CARD OF 'laws.FnSteps'. -/
def fnStepsUptoCard : Claim7 := { stood := { row := fnStepsUptoRow, standIns := [], harness := (true, "010811a82e7b2bc47e0dc6ddeec2cee26996500ac4c94d13c661459fb5114444"), looks := true }, kinds := [], alts := [], laidByText := true, laidKinds := [.data, .data, .data, .sentinel, .sentinel], laidTests := true, laidLooks := .later }
def FnStepsUptoCardSaid : Prop := Claim7.holds Tryz.pinned (.plain (OpenSpec.upto fnStepsSpec)) fnStepsUptoCard

/-- THE SECOND FORM's CARD OF 'laws.FnNormal'. -/
def fnNormalUptoCard : Claim7 := { stood := { row := fnNormalUptoRow, standIns := [], harness := (true, "010811a82e7b2bc47e0dc6ddeec2cee26996500ac4c94d13c661459fb5114444"), looks := true }, kinds := [], alts := [], laidByText := true, laidKinds := [.data, .data, .data], laidTests := true, laidLooks := .later }
def FnNormalUptoCardSaid : Prop := Claim7.holds Tryz.pinned (.plain (OpenSpec.upto fnNormalSpec)) fnNormalUptoCard

/-- THE SECOND FORM's CARD OF 'laws.FnExactReadNormal'. -/
def fnExactReadNormalUptoCard : Claim7 := { stood := { row := fnExactReadNormalUptoRow, standIns := [], harness := (true, "010811a82e7b2bc47e0dc6ddeec2cee26996500ac4c94d13c661459fb5114444"), looks := true }, kinds := [], alts := [], laidByText := true, laidKinds := [.data, .data, .data, .sentinel, .sentinel], laidTests := true, laidLooks := .later }
def FnExactReadNormalUptoCardSaid : Prop := Claim7.holds Tryz.pinned (.plain (OpenSpec.upto fnExactReadNormalSpec)) fnExactReadNormalUptoCard
end Rows
end Go.Proofs.YtnnaigoomipklaaGreatDoor
