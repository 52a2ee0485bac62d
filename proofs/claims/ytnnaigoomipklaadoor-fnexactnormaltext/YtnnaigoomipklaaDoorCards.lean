/-
  DERIVED. GIVEN WITH THE SEED: THE CARDS: each row of YtnnaigoomipklaaDoorRows.lean that lists a variable, with what it lists TIED to the program's text (the seventh form; the later family's looks); each row that meets fmt, with fmt's text TOLD by the authors' own Lean function (tested against real Go, not proved from fmt's source: count such statements apart). THE CARD IS WHAT COUNTS. Prove the row's statement (the work); the ties are given (YtnnaigoomipklaaDoorTie.lean); close each card by the builder's one call (the guide's Derived/Test/ToyasCard.lean, 'card_holds'). Laid BY PROGRAM, IN A SANDBOX (cutbox-door.mjs). By AI agents, Wed Nov 11 2026. No macro, syntax, notation, axiom, sorry.
-/
import Derived.Test.YtnnaigoomipklaaDoorRows
import GoSem.ClaimSeven
namespace Go.Proofs.YtnnaigoomipklaaDoor
namespace Rows

/-- THE TIED CARD OF 'laws.FnExactOrdersText'. -/
def fnExactOrdersTextCard : Claim7 := { stood := { row := fnExactOrdersTextRow, standIns := [], harness := (true, "a7d5ef78f19984e802332c9f43b2896b16c3b89a965728fa6934aa4576de9d53"), looks := false }, kinds := [], alts := [], laidByText := true, laidKinds := [.data, .data, .data, .data], laidTests := true, laidLooks := .later }
def FnExactOrdersTextCardSaid : Prop := Claim7.holds Tryd.pinned (.plain (OpenSpec.ofChange fnExactOrdersTextSpec)) fnExactOrdersTextCard

/-- THE TIED CARD OF 'laws.FnExactEdText'. -/
def fnExactEdTextCard : Claim7 := { stood := { row := fnExactEdTextRow, standIns := [], harness := (true, "a7d5ef78f19984e802332c9f43b2896b16c3b89a965728fa6934aa4576de9d53"), looks := false }, kinds := [], alts := [], laidByText := true, laidKinds := [.data, .data, .data, .data], laidTests := true, laidLooks := .later }
def FnExactEdTextCardSaid : Prop := Claim7.holds Tryd.pinned (.plain (OpenSpec.ofChange fnExactEdTextSpec)) fnExactEdTextCard

/-- THE TIED CARD OF 'laws.FnExactNormalText'. -/
def fnExactNormalTextCard : Claim7 := { stood := { row := fnExactNormalTextRow, standIns := [], harness := (true, "a7d5ef78f19984e802332c9f43b2896b16c3b89a965728fa6934aa4576de9d53"), looks := false }, kinds := [], alts := [], laidByText := true, laidKinds := [.data, .data, .data], laidTests := true, laidLooks := .later }
def FnExactNormalTextCardSaid : Prop := Claim7.holds Tryd.pinned (.plain (OpenSpec.ofChange fnExactNormalTextSpec)) fnExactNormalTextCard

/-- THE TIED CARD OF 'laws.FnExactStepsText'. -/
def fnExactStepsTextCard : Claim7 := { stood := { row := fnExactStepsTextRow, standIns := [], harness := (true, "a7d5ef78f19984e802332c9f43b2896b16c3b89a965728fa6934aa4576de9d53"), looks := false }, kinds := [], alts := [], laidByText := true, laidKinds := [.data, .data, .data], laidTests := true, laidLooks := .later }
def FnExactStepsTextCardSaid : Prop := Claim7.holds Tryd.pinned (.plain (OpenSpec.ofChange fnExactStepsTextSpec)) fnExactStepsTextCard

/-- THE SECOND FORM's CARD OF 'laws.FnExactOrdersText'. -/
def fnExactOrdersTextUptoCard : Claim7 := { stood := { row := fnExactOrdersTextUptoRow, standIns := [], harness := (true, "a7d5ef78f19984e802332c9f43b2896b16c3b89a965728fa6934aa4576de9d53"), looks := false }, kinds := [], alts := [], laidByText := true, laidKinds := [.data, .data, .data, .data], laidTests := true, laidLooks := .later }
def FnExactOrdersTextUptoCardSaid : Prop := Claim7.holds Tryd.pinned (.plain (OpenSpec.upto fnExactOrdersTextSpec)) fnExactOrdersTextUptoCard

/-- THE SECOND FORM's CARD OF 'laws.FnExactEdText'. -/
def fnExactEdTextUptoCard : Claim7 := { stood := { row := fnExactEdTextUptoRow, standIns := [], harness := (true, "a7d5ef78f19984e802332c9f43b2896b16c3b89a965728fa6934aa4576de9d53"), looks := false }, kinds := [], alts := [], laidByText := true, laidKinds := [.data, .data, .data, .data], laidTests := true, laidLooks := .later }
def FnExactEdTextUptoCardSaid : Prop := Claim7.holds Tryd.pinned (.plain (OpenSpec.upto fnExactEdTextSpec)) fnExactEdTextUptoCard

/-- THE SECOND FORM's CARD OF 'laws.FnExactNormalText'. -/
def fnExactNormalTextUptoCard : Claim7 := { stood := { row := fnExactNormalTextUptoRow, standIns := [], harness := (true, "a7d5ef78f19984e802332c9f43b2896b16c3b89a965728fa6934aa4576de9d53"), looks := false }, kinds := [], alts := [], laidByText := true, laidKinds := [.data, .data, .data], laidTests := true, laidLooks := .later }
def FnExactNormalTextUptoCardSaid : Prop := Claim7.holds Tryd.pinned (.plain (OpenSpec.upto fnExactNormalTextSpec)) fnExactNormalTextUptoCard

/-- THE SECOND FORM's CARD OF 'laws.FnExactStepsText'. -/
def fnExactStepsTextUptoCard : Claim7 := { stood := { row := fnExactStepsTextUptoRow, standIns := [], harness := (true, "a7d5ef78f19984e802332c9f43b2896b16c3b89a965728fa6934aa4576de9d53"), looks := false }, kinds := [], alts := [], laidByText := true, laidKinds := [.data, .data, .data], laidTests := true, laidLooks := .later }
def FnExactStepsTextUptoCardSaid : Prop := Claim7.holds Tryd.pinned (.plain (OpenSpec.upto fnExactStepsTextSpec)) fnExactStepsTextUptoCard
end Rows
end Go.Proofs.YtnnaigoomipklaaDoor
