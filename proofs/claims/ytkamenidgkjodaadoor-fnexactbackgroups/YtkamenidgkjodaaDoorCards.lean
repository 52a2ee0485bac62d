/-
  DERIVED. GIVEN WITH THE SEED: THE CARDS: each row of YtkamenidgkjodaaDoorRows.lean that lists a variable, with what it lists TIED to the program's text (the seventh form; the later family's looks); each row that meets fmt, with fmt's text TOLD by the authors' own Lean function (tested against real Go, not proved from fmt's source: count such statements apart). THE CARD IS WHAT COUNTS. Prove the row's statement (the work); the ties are given (YtkamenidgkjodaaDoorTie.lean); close each card by the builder's one call (the guide's Derived/Test/ToyasCard.lean, 'card_holds'). Laid BY PROGRAM, IN A SANDBOX (cutbox-door.mjs). By AI agents, Wed Nov 11 2026. No macro, syntax, notation, axiom, sorry.
-/
import Derived.Test.YtkamenidgkjodaaDoorRows
import GoSem.ClaimSeven
namespace Go.Proofs.YtkamenidgkjodaaDoor
namespace Rows

/-- THE TIED CARD OF 'laws.FnExactUnifiedText'. -/
def fnExactUnifiedTextCard : Claim7 := { stood := { row := fnExactUnifiedTextRow, standIns := [], harness := (true, "8fc2586ec37de5b8a76f11b7aed29ddcaab6b59c784b7f10e3c551d9241e5d2e"), looks := false }, kinds := [], alts := [], laidByText := true, laidKinds := [.data, .data, .data, .data], laidTests := true, laidLooks := .later }
def FnExactUnifiedTextCardSaid : Prop := Claim7.holds Tryd.pinned (.plain (OpenSpec.ofChange fnExactUnifiedTextSpec)) fnExactUnifiedTextCard

/-- THE TIED CARD OF 'laws.FnExactGroupsText'. -/
def fnExactGroupsTextCard : Claim7 := { stood := { row := fnExactGroupsTextRow, standIns := [], harness := (true, "8fc2586ec37de5b8a76f11b7aed29ddcaab6b59c784b7f10e3c551d9241e5d2e"), looks := false }, kinds := [], alts := [], laidByText := true, laidKinds := [.data, .data, .data, .data], laidTests := true, laidLooks := .later }
def FnExactGroupsTextCardSaid : Prop := Claim7.holds Tryd.pinned (.plain (OpenSpec.ofChange fnExactGroupsTextSpec)) fnExactGroupsTextCard

/-- THE TIED CARD OF 'laws.FnExactBackGroups'. -/
def fnExactBackGroupsCard : Claim7 := { stood := { row := fnExactBackGroupsRow, standIns := [], harness := (true, "8fc2586ec37de5b8a76f11b7aed29ddcaab6b59c784b7f10e3c551d9241e5d2e"), looks := false }, kinds := [], alts := [], laidByText := true, laidKinds := [.data], laidTests := true, laidLooks := .later }
def FnExactBackGroupsCardSaid : Prop := Claim7.holds Tryd.pinned (.plain (OpenSpec.ofChange fnExactBackGroupsSpec)) fnExactBackGroupsCard

/-- THE SECOND FORM's CARD OF 'laws.FnExactUnifiedText'. -/
def fnExactUnifiedTextUptoCard : Claim7 := { stood := { row := fnExactUnifiedTextUptoRow, standIns := [], harness := (true, "8fc2586ec37de5b8a76f11b7aed29ddcaab6b59c784b7f10e3c551d9241e5d2e"), looks := false }, kinds := [], alts := [], laidByText := true, laidKinds := [.data, .data, .data, .data], laidTests := true, laidLooks := .later }
def FnExactUnifiedTextUptoCardSaid : Prop := Claim7.holds Tryd.pinned (.plain (OpenSpec.upto fnExactUnifiedTextSpec)) fnExactUnifiedTextUptoCard

/-- THE SECOND FORM's CARD OF 'laws.FnExactGroupsText'. -/
def fnExactGroupsTextUptoCard : Claim7 := { stood := { row := fnExactGroupsTextUptoRow, standIns := [], harness := (true, "8fc2586ec37de5b8a76f11b7aed29ddcaab6b59c784b7f10e3c551d9241e5d2e"), looks := false }, kinds := [], alts := [], laidByText := true, laidKinds := [.data, .data, .data, .data], laidTests := true, laidLooks := .later }
def FnExactGroupsTextUptoCardSaid : Prop := Claim7.holds Tryd.pinned (.plain (OpenSpec.upto fnExactGroupsTextSpec)) fnExactGroupsTextUptoCard

/-- THE SECOND FORM's CARD OF 'laws.FnExactBackGroups'. -/
def fnExactBackGroupsUptoCard : Claim7 := { stood := { row := fnExactBackGroupsUptoRow, standIns := [], harness := (true, "8fc2586ec37de5b8a76f11b7aed29ddcaab6b59c784b7f10e3c551d9241e5d2e"), looks := false }, kinds := [], alts := [], laidByText := true, laidKinds := [.data], laidTests := true, laidLooks := .later }
def FnExactBackGroupsUptoCardSaid : Prop := Claim7.holds Tryd.pinned (.plain (OpenSpec.upto fnExactBackGroupsSpec)) fnExactBackGroupsUptoCard
end Rows
end Go.Proofs.YtkamenidgkjodaaDoor
