/-
  DERIVED. GIVEN WITH THE SEED: THE CARDS: each row of YtkamenidgkjodaaGreatDoorRows.lean that lists a variable, with what it lists TIED to the program's text (the seventh form; the later family's looks); each row that meets fmt, with fmt's text TOLD by the authors' own Lean function (tested against real Go, not proved from fmt's source: count such statements apart). THE CARD IS WHAT COUNTS. Prove the row's statement (the work); the ties are given (YtkamenidgkjodaaGreatDoorTie.lean); close each card by the builder's one call (the guide's Derived/Test/ToyasCard.lean, 'card_holds'). Laid BY PROGRAM, IN A SANDBOX (cutbox-door.mjs). By AI agents, Wed Nov 11 2026. No macro, syntax, notation, axiom, sorry.
-/
import Derived.Test.YtkamenidgkjodaaGreatDoorRows
import GoSem.ClaimSeven
namespace Go.Proofs.YtkamenidgkjodaaGreatDoor
namespace Rows

/-- THE TIED CARD OF 'laws.FnUnified'. -/
def fnUnifiedCard : Claim7 := { stood := { row := fnUnifiedRow, standIns := [], harness := (true, "87456b977fff3854813a5bef174496e105e6a7d1cfa0f1fe5fb9fd1fb1332185"), looks := true }, kinds := [], alts := [], laidByText := true, laidKinds := [.data, .data, .data, .sentinel, .sentinel, .data], laidTests := true, laidLooks := .later }
def FnUnifiedCardSaid : Prop := Claim7.holds Tryz.pinned (.plain (OpenSpec.ofChange fnUnifiedSpec)) fnUnifiedCard

/-- THE TIED CARD OF 'laws.FnGroupsDone'. -/
def fnGroupsDoneCard : Claim7 := { stood := { row := fnGroupsDoneRow, standIns := [], harness := (true, "87456b977fff3854813a5bef174496e105e6a7d1cfa0f1fe5fb9fd1fb1332185"), looks := true }, kinds := [], alts := [], laidByText := true, laidKinds := [.data, .data, .data, .sentinel, .sentinel, .data, .data], laidTests := true, laidLooks := .later }
def FnGroupsDoneCardSaid : Prop := Claim7.holds Tryz.pinned (.plain (OpenSpec.ofChange fnGroupsDoneSpec)) fnGroupsDoneCard

/-- THE TIED CARD OF 'laws.FnExactReadUnified'. -/
def fnExactReadUnifiedCard : Claim7 := { stood := { row := fnExactReadUnifiedRow, standIns := [], harness := (true, "87456b977fff3854813a5bef174496e105e6a7d1cfa0f1fe5fb9fd1fb1332185"), looks := true }, kinds := [], alts := [], laidByText := true, laidKinds := [.data, .data, .data, .sentinel, .sentinel, .data], laidTests := true, laidLooks := .later }
def FnExactReadUnifiedCardSaid : Prop := Claim7.holds Tryz.pinned (.plain (OpenSpec.ofChange fnExactReadUnifiedSpec)) fnExactReadUnifiedCard

/-- THE SECOND FORM's CARD OF 'laws.FnUnified'. -/
def fnUnifiedUptoCard : Claim7 := { stood := { row := fnUnifiedUptoRow, standIns := [], harness := (true, "87456b977fff3854813a5bef174496e105e6a7d1cfa0f1fe5fb9fd1fb1332185"), looks := true }, kinds := [], alts := [], laidByText := true, laidKinds := [.data, .data, .data, .sentinel, .sentinel, .data], laidTests := true, laidLooks := .later }
def FnUnifiedUptoCardSaid : Prop := Claim7.holds Tryz.pinned (.plain (OpenSpec.upto fnUnifiedSpec)) fnUnifiedUptoCard

/-- THE SECOND FORM's CARD OF 'laws.FnGroupsDone'. -/
def fnGroupsDoneUptoCard : Claim7 := { stood := { row := fnGroupsDoneUptoRow, standIns := [], harness := (true, "87456b977fff3854813a5bef174496e105e6a7d1cfa0f1fe5fb9fd1fb1332185"), looks := true }, kinds := [], alts := [], laidByText := true, laidKinds := [.data, .data, .data, .sentinel, .sentinel, .data, .data], laidTests := true, laidLooks := .later }
def FnGroupsDoneUptoCardSaid : Prop := Claim7.holds Tryz.pinned (.plain (OpenSpec.upto fnGroupsDoneSpec)) fnGroupsDoneUptoCard

/-- THE SECOND FORM's CARD OF 'laws.FnExactReadUnified'. -/
def fnExactReadUnifiedUptoCard : Claim7 := { stood := { row := fnExactReadUnifiedUptoRow, standIns := [], harness := (true, "87456b977fff3854813a5bef174496e105e6a7d1cfa0f1fe5fb9fd1fb1332185"), looks := true }, kinds := [], alts := [], laidByText := true, laidKinds := [.data, .data, .data, .sentinel, .sentinel, .data], laidTests := true, laidLooks := .later }
def FnExactReadUnifiedUptoCardSaid : Prop := Claim7.holds Tryz.pinned (.plain (OpenSpec.upto fnExactReadUnifiedSpec)) fnExactReadUnifiedUptoCard
end Rows
end Go.Proofs.YtkamenidgkjodaaGreatDoor
