/-
  DERIVED. GIVEN WITH THE SEED: THE CARDS: each row of YtaliljbijnbiaaaDoorRows.lean that lists a variable, with what it lists TIED to the program's text (the seventh form; the later family's looks); each row that meets fmt, with fmt's text TOLD by the authors' own Lean function (tested against real Go, not proved from fmt's source: count such statements apart). THE CARD IS WHAT COUNTS. Prove the row's statement (the work); the ties are given (YtaliljbijnbiaaaDoorTie.lean); close each card by the builder's one call (the guide's Derived/Test/ToyasCard.lean, 'card_holds'). Laid BY PROGRAM, IN A SANDBOX (cutbox-door.mjs). By AI agents, Wed Nov 11 2026. No macro, syntax, notation, axiom, sorry.
-/
import Derived.Test.YtaliljbijnbiaaaDoorRows
import GoSem.ClaimSeven
namespace Go.Proofs.YtaliljbijnbiaaaDoor
namespace Rows

/-- THE TIED CARD OF 'laws.FnExactReadNumber'. -/
def fnExactReadNumberCard : Claim7 := { stood := { row := fnExactReadNumberRow, standIns := [], harness := (true, "0ff8212c1fb05e4749d7146175fc229a86b69ce04c388fc0bb37c2d6cac7d580"), looks := true }, kinds := [], alts := [], laidByText := true, laidKinds := [.data, .data, .data, .sentinel, .sentinel], laidTests := true, laidLooks := .later }
def FnExactReadNumberCardSaid : Prop := Claim7.holds Tryd.pinned (.plain (OpenSpec.ofChange fnExactReadNumberSpec)) fnExactReadNumberCard

/-- THE TIED CARD OF 'laws.FnExactPairText'. -/
def fnExactPairTextCard : Claim7 := { stood := { row := fnExactPairTextRow, standIns := [], harness := (true, "0ff8212c1fb05e4749d7146175fc229a86b69ce04c388fc0bb37c2d6cac7d580"), looks := true }, kinds := [], alts := [], laidByText := true, laidKinds := [.data, .data, .data], laidTests := true, laidLooks := .later }
def FnExactPairTextCardSaid : Prop := Claim7.holds Tryd.pinned (.plain (OpenSpec.ofChange fnExactPairTextSpec)) fnExactPairTextCard

/-- THE TIED CARD OF 'laws.FnExactReadPair'. -/
def fnExactReadPairCard : Claim7 := { stood := { row := fnExactReadPairRow, standIns := [], harness := (true, "0ff8212c1fb05e4749d7146175fc229a86b69ce04c388fc0bb37c2d6cac7d580"), looks := true }, kinds := [], alts := [], laidByText := true, laidKinds := [.data, .data, .data, .sentinel, .sentinel], laidTests := true, laidLooks := .later }
def FnExactReadPairCardSaid : Prop := Claim7.holds Tryd.pinned (.plain (OpenSpec.ofChange fnExactReadPairSpec)) fnExactReadPairCard

/-- THE TIED CARD OF 'laws.FnExactCountText'. -/
def fnExactCountTextCard : Claim7 := { stood := { row := fnExactCountTextRow, standIns := [], harness := (true, "0ff8212c1fb05e4749d7146175fc229a86b69ce04c388fc0bb37c2d6cac7d580"), looks := true }, kinds := [], alts := [], laidByText := true, laidKinds := [.data, .data, .data], laidTests := true, laidLooks := .later }
def FnExactCountTextCardSaid : Prop := Claim7.holds Tryd.pinned (.plain (OpenSpec.ofChange fnExactCountTextSpec)) fnExactCountTextCard

/-- THE TIED CARD OF 'laws.FnExactReadCount'. -/
def fnExactReadCountCard : Claim7 := { stood := { row := fnExactReadCountRow, standIns := [], harness := (true, "0ff8212c1fb05e4749d7146175fc229a86b69ce04c388fc0bb37c2d6cac7d580"), looks := true }, kinds := [], alts := [], laidByText := true, laidKinds := [.data, .data, .data, .sentinel, .sentinel], laidTests := true, laidLooks := .later }
def FnExactReadCountCardSaid : Prop := Claim7.holds Tryd.pinned (.plain (OpenSpec.ofChange fnExactReadCountSpec)) fnExactReadCountCard

/-- THE TIED CARD OF 'laws.FnExactEndText'. -/
def fnExactEndTextCard : Claim7 := { stood := { row := fnExactEndTextRow, standIns := [], harness := (true, "0ff8212c1fb05e4749d7146175fc229a86b69ce04c388fc0bb37c2d6cac7d580"), looks := true }, kinds := [], alts := [], laidByText := true, laidKinds := [.data, .data, .data], laidTests := true, laidLooks := .later }
def FnExactEndTextCardSaid : Prop := Claim7.holds Tryd.pinned (.plain (OpenSpec.ofChange fnExactEndTextSpec)) fnExactEndTextCard

/-- THE TIED CARD OF 'laws.FnExactReadEnd'. -/
def fnExactReadEndCard : Claim7 := { stood := { row := fnExactReadEndRow, standIns := [], harness := (true, "0ff8212c1fb05e4749d7146175fc229a86b69ce04c388fc0bb37c2d6cac7d580"), looks := true }, kinds := [], alts := [], laidByText := true, laidKinds := [.data, .data, .data, .handle, .sentinel, .sentinel], laidTests := true, laidLooks := .later }
def FnExactReadEndCardSaid : Prop := Claim7.holds Tryd.pinned (.plain (OpenSpec.ofChange fnExactReadEndSpec)) fnExactReadEndCard

/-- THE SECOND FORM's CARD OF 'laws.FnExactReadNumber'. -/
def fnExactReadNumberUptoCard : Claim7 := { stood := { row := fnExactReadNumberUptoRow, standIns := [], harness := (true, "0ff8212c1fb05e4749d7146175fc229a86b69ce04c388fc0bb37c2d6cac7d580"), looks := true }, kinds := [], alts := [], laidByText := true, laidKinds := [.data, .data, .data, .sentinel, .sentinel], laidTests := true, laidLooks := .later }
def FnExactReadNumberUptoCardSaid : Prop := Claim7.holds Tryd.pinned (.plain (OpenSpec.upto fnExactReadNumberSpec)) fnExactReadNumberUptoCard

/-- THE SECOND FORM's CARD OF 'laws.FnExactPairText'. -/
def fnExactPairTextUptoCard : Claim7 := { stood := { row := fnExactPairTextUptoRow, standIns := [], harness := (true, "0ff8212c1fb05e4749d7146175fc229a86b69ce04c388fc0bb37c2d6cac7d580"), looks := true }, kinds := [], alts := [], laidByText := true, laidKinds := [.data, .data, .data], laidTests := true, laidLooks := .later }
def FnExactPairTextUptoCardSaid : Prop := Claim7.holds Tryd.pinned (.plain (OpenSpec.upto fnExactPairTextSpec)) fnExactPairTextUptoCard

/-- THE SECOND FORM's CARD OF 'laws.FnExactReadPair'. -/
def fnExactReadPairUptoCard : Claim7 := { stood := { row := fnExactReadPairUptoRow, standIns := [], harness := (true, "0ff8212c1fb05e4749d7146175fc229a86b69ce04c388fc0bb37c2d6cac7d580"), looks := true }, kinds := [], alts := [], laidByText := true, laidKinds := [.data, .data, .data, .sentinel, .sentinel], laidTests := true, laidLooks := .later }
def FnExactReadPairUptoCardSaid : Prop := Claim7.holds Tryd.pinned (.plain (OpenSpec.upto fnExactReadPairSpec)) fnExactReadPairUptoCard

/-- THE SECOND FORM's CARD OF 'laws.FnExactCountText'. -/
def fnExactCountTextUptoCard : Claim7 := { stood := { row := fnExactCountTextUptoRow, standIns := [], harness := (true, "0ff8212c1fb05e4749d7146175fc229a86b69ce04c388fc0bb37c2d6cac7d580"), looks := true }, kinds := [], alts := [], laidByText := true, laidKinds := [.data, .data, .data], laidTests := true, laidLooks := .later }
def FnExactCountTextUptoCardSaid : Prop := Claim7.holds Tryd.pinned (.plain (OpenSpec.upto fnExactCountTextSpec)) fnExactCountTextUptoCard

/-- THE SECOND FORM's CARD OF 'laws.FnExactReadCount'. -/
def fnExactReadCountUptoCard : Claim7 := { stood := { row := fnExactReadCountUptoRow, standIns := [], harness := (true, "0ff8212c1fb05e4749d7146175fc229a86b69ce04c388fc0bb37c2d6cac7d580"), looks := true }, kinds := [], alts := [], laidByText := true, laidKinds := [.data, .data, .data, .sentinel, .sentinel], laidTests := true, laidLooks := .later }
def FnExactReadCountUptoCardSaid : Prop := Claim7.holds Tryd.pinned (.plain (OpenSpec.upto fnExactReadCountSpec)) fnExactReadCountUptoCard

/-- THE SECOND FORM's CARD OF 'laws.FnExactEndText'. -/
def fnExactEndTextUptoCard : Claim7 := { stood := { row := fnExactEndTextUptoRow, standIns := [], harness := (true, "0ff8212c1fb05e4749d7146175fc229a86b69ce04c388fc0bb37c2d6cac7d580"), looks := true }, kinds := [], alts := [], laidByText := true, laidKinds := [.data, .data, .data], laidTests := true, laidLooks := .later }
def FnExactEndTextUptoCardSaid : Prop := Claim7.holds Tryd.pinned (.plain (OpenSpec.upto fnExactEndTextSpec)) fnExactEndTextUptoCard

/-- THE SECOND FORM's CARD OF 'laws.FnExactReadEnd'. -/
def fnExactReadEndUptoCard : Claim7 := { stood := { row := fnExactReadEndUptoRow, standIns := [], harness := (true, "0ff8212c1fb05e4749d7146175fc229a86b69ce04c388fc0bb37c2d6cac7d580"), looks := true }, kinds := [], alts := [], laidByText := true, laidKinds := [.data, .data, .data, .handle, .sentinel, .sentinel], laidTests := true, laidLooks := .later }
def FnExactReadEndUptoCardSaid : Prop := Claim7.holds Tryd.pinned (.plain (OpenSpec.upto fnExactReadEndSpec)) fnExactReadEndUptoCard
end Rows
end Go.Proofs.YtaliljbijnbiaaaDoor
