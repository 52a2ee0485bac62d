/-
  No cell of these rows narrows 'for every input' (looked for: loops, veiled, ifaces, maps, wideKeys, modest, calm, conditions, laid).
  DERIVED. THE GIVEN ROWS OF THIS SEAT. 4 by the template 'for every input the law returns true; each argument reads behind the call as it read before'; 0 by the template 'total and deterministic' (their statements: YtnimaadjmejmpaaTotals.lean).
  GIVEN WITH THE SEED: the statements are not yours to turn. If you find one false, say at which input.
  Laid BY PROGRAM, IN A SANDBOX (cutbox-rows.mjs): the forced cells as the released guide's own fill.sh prints them over the translation 88c6725d9bd6ad77… (all of the seat's roots in one cut). By AI agents, Wed Nov 11 2026. No macro, syntax, notation, axiom, sorry.
-/
import Derived.Test.YtnimaadjmejmpaaChecked
import GoSem.Claim
import GoSem.ClaimJoined
import GoSem.ClaimMapViews
import Derived.JoinedTies
import Derived.KernelRfl
namespace Go.Proofs.Ytnimaadjmejmpaa
/- THE CELL 'sum', in the pinned program and in every row, IS THE sha256 OF THE DUMP (.gsa) THAT YtnimaadjmejmpaaProg.lean LOADS. Nothing in Lean hashes anything: it is a label: what it is worth is what the hold of that sum in a sandbox is worth. -/
noncomputable def Try.pinned : Pinned := { name := "ytnimaadjmejmpaa", sum := "88c6725d9bd6ad77fcdef00593522eff20a04a342d39f272ff89b0df45956ffe", checked := Try.checked }
namespace Rows
def none {H : Type} : Left H := { results := [], args := [] }

/-- 'laws.FnExactGoodSteps': WHATEVER THE INPUT: true; the input reads as it did. -/
def fnExactGoodStepsSpec : ChangeSpec := { name := "fnExactGoodSteps", fn := fun _ => fun
  | [d] => { results := [.lit (.bool true)], args := [d] }
  | _ => none }
def fnExactGoodStepsRow : OpenClaim := { program := "ytnimaadjmejmpaa", sum := "88c6725d9bd6ad77fcdef00593522eff20a04a342d39f272ff89b0df45956ffe", func := "loop.example/g00825/laws.FnExactGoodSteps", spec := "fnExactGoodSteps", apart := false }
def FnExactGoodStepsSaid : Prop := fnExactGoodStepsRow.holds Try.pinned (OpenSpec.ofChange fnExactGoodStepsSpec)

/-- ITS FALSE NEIGHBOUR: 'it returns false'. Refute it at one input. -/
def fnExactGoodStepsWrong : ChangeSpec := { name := "fnExactGoodSteps", fn := fun _ => fun
  | [d] => { results := [.lit (.bool false)], args := [d] }
  | _ => none }
def FnExactGoodStepsWrongFalsely : Prop := fnExactGoodStepsRow.holds Try.pinned (OpenSpec.ofChange fnExactGoodStepsWrong)

/-- 'laws.FnExactApplySteps': WHATEVER THE INPUT: true; the input reads as it did. -/
def fnExactApplyStepsSpec : ChangeSpec := { name := "fnExactApplySteps", fn := fun _ => fun
  | [d1, d2] => { results := [.lit (.bool true)], args := [d1, d2] }
  | _ => none }
def fnExactApplyStepsRow : OpenClaim := { program := "ytnimaadjmejmpaa", sum := "88c6725d9bd6ad77fcdef00593522eff20a04a342d39f272ff89b0df45956ffe", func := "loop.example/g00825/laws.FnExactApplySteps", spec := "fnExactApplySteps", apart := false }
def FnExactApplyStepsSaid : Prop := fnExactApplyStepsRow.holds Try.pinned (OpenSpec.ofChange fnExactApplyStepsSpec)

/-- ITS FALSE NEIGHBOUR: 'it returns false'. Refute it at one input. -/
def fnExactApplyStepsWrong : ChangeSpec := { name := "fnExactApplySteps", fn := fun _ => fun
  | [d1, d2] => { results := [.lit (.bool false)], args := [d1, d2] }
  | _ => none }
def FnExactApplyStepsWrongFalsely : Prop := fnExactApplyStepsRow.holds Try.pinned (OpenSpec.ofChange fnExactApplyStepsWrong)

/-- 'laws.FnExactStepsHunks': WHATEVER THE INPUT: true; the input reads as it did. -/
def fnExactStepsHunksSpec : ChangeSpec := { name := "fnExactStepsHunks", fn := fun _ => fun
  | [d1, d2] => { results := [.lit (.bool true)], args := [d1, d2] }
  | _ => none }
def fnExactStepsHunksRow : OpenClaim := { program := "ytnimaadjmejmpaa", sum := "88c6725d9bd6ad77fcdef00593522eff20a04a342d39f272ff89b0df45956ffe", func := "loop.example/g00825/laws.FnExactStepsHunks", spec := "fnExactStepsHunks", apart := false }
def FnExactStepsHunksSaid : Prop := fnExactStepsHunksRow.holds Try.pinned (OpenSpec.ofChange fnExactStepsHunksSpec)

/-- ITS FALSE NEIGHBOUR: 'it returns false'. Refute it at one input. -/
def fnExactStepsHunksWrong : ChangeSpec := { name := "fnExactStepsHunks", fn := fun _ => fun
  | [d1, d2] => { results := [.lit (.bool false)], args := [d1, d2] }
  | _ => none }
def FnExactStepsHunksWrongFalsely : Prop := fnExactStepsHunksRow.holds Try.pinned (OpenSpec.ofChange fnExactStepsHunksWrong)

/-- 'laws.FnExactNormalSteps': WHATEVER THE INPUT: true; the input reads as it did. -/
def fnExactNormalStepsSpec : ChangeSpec := { name := "fnExactNormalSteps", fn := fun _ => fun
  | [d1, d2] => { results := [.lit (.bool true)], args := [d1, d2] }
  | _ => none }
def fnExactNormalStepsRow : OpenClaim := { program := "ytnimaadjmejmpaa", sum := "88c6725d9bd6ad77fcdef00593522eff20a04a342d39f272ff89b0df45956ffe", func := "loop.example/g00825/laws.FnExactNormalSteps", spec := "fnExactNormalSteps", apart := false }
def FnExactNormalStepsSaid : Prop := fnExactNormalStepsRow.holds Try.pinned (OpenSpec.ofChange fnExactNormalStepsSpec)

/-- ITS FALSE NEIGHBOUR: 'it returns false'. Refute it at one input. -/
def fnExactNormalStepsWrong : ChangeSpec := { name := "fnExactNormalSteps", fn := fun _ => fun
  | [d1, d2] => { results := [.lit (.bool false)], args := [d1, d2] }
  | _ => none }
def FnExactNormalStepsWrongFalsely : Prop := fnExactNormalStepsRow.holds Try.pinned (OpenSpec.ofChange fnExactNormalStepsWrong)

/- THE SECOND FORM. 'bulk': how many values and letters a reading holds, each counted each time it is reached (what is shared counts as often as it is met; a slice's spare places count too). A statement '..UptoSaid' is the law's where the arguments, and the package variables that the reading takes, are together of bulk at most 1048576: NARROWER than '..Said'. Prove '..Said' where nothing that the law and all that it calls make is longer than what came in: it says more and counts as full. Else prove '..UptoSaid'. A law counts once. -/
mutual
def uptoBulk {H : Type} : DataW H → Nat
  | .lit (.string bytes) => bytes.length + 1
  | .lit _ => 1
  | .nil => 1
  | .ptr d => uptoBulk d + 1
  | .slice elems spare => uptoBulkAll elems + uptoBulkAll spare + 1
  | .agg parts => uptoBulkAll parts + 1
  | .iface _ d => uptoBulk d + 1
  | .map entries => uptoBulkEntries entries + 1
  | .held _ => 1
def uptoBulkAll {H : Type} : List (DataW H) → Nat
  | [] => 0
  | d :: r => uptoBulk d + uptoBulkAll r
def uptoBulkEntries {H : Type} : List (Lit × DataW H) → Nat
  | [] => 0
  | x :: r => uptoBulkEntry x + uptoBulkEntries r
def uptoBulkEntry {H : Type} : Lit × DataW H → Nat
  | (.string bytes, d) => bytes.length + uptoBulk d + 1
  | (_, d) => uptoBulk d + 1
 end
def uptoSmall : (H : Type) → List (DataW H) → Bool := fun _ ds => decide (uptoBulkAll ds ≤ 1048576)
def OpenSpec.upto (s : _root_.Go.ChangeSpec) : _root_.Go.OpenSpec := { _root_.Go.OpenSpec.ofChange s with cond := some uptoSmall }

/-- 'laws.FnExactGoodSteps', WHERE WHAT IT READS IS OF BULK AT MOST 1048576: true; the input reads as it did. -/
def fnExactGoodStepsUptoRow : OpenClaim := { program := "ytnimaadjmejmpaa", sum := "88c6725d9bd6ad77fcdef00593522eff20a04a342d39f272ff89b0df45956ffe", func := "loop.example/g00825/laws.FnExactGoodSteps", spec := "fnExactGoodSteps", apart := false, narrowed := true }
def FnExactGoodStepsUptoSaid : Prop := fnExactGoodStepsUptoRow.holds Try.pinned (OpenSpec.upto fnExactGoodStepsSpec)

/-- 'laws.FnExactApplySteps', WHERE WHAT IT READS IS OF BULK AT MOST 1048576: true; the input reads as it did. -/
def fnExactApplyStepsUptoRow : OpenClaim := { program := "ytnimaadjmejmpaa", sum := "88c6725d9bd6ad77fcdef00593522eff20a04a342d39f272ff89b0df45956ffe", func := "loop.example/g00825/laws.FnExactApplySteps", spec := "fnExactApplySteps", apart := false, narrowed := true }
def FnExactApplyStepsUptoSaid : Prop := fnExactApplyStepsUptoRow.holds Try.pinned (OpenSpec.upto fnExactApplyStepsSpec)

/-- 'laws.FnExactStepsHunks', WHERE WHAT IT READS IS OF BULK AT MOST 1048576: true; the input reads as it did. -/
def fnExactStepsHunksUptoRow : OpenClaim := { program := "ytnimaadjmejmpaa", sum := "88c6725d9bd6ad77fcdef00593522eff20a04a342d39f272ff89b0df45956ffe", func := "loop.example/g00825/laws.FnExactStepsHunks", spec := "fnExactStepsHunks", apart := false, narrowed := true }
def FnExactStepsHunksUptoSaid : Prop := fnExactStepsHunksUptoRow.holds Try.pinned (OpenSpec.upto fnExactStepsHunksSpec)

/-- 'laws.FnExactNormalSteps', WHERE WHAT IT READS IS OF BULK AT MOST 1048576: true; the input reads as it did. -/
def fnExactNormalStepsUptoRow : OpenClaim := { program := "ytnimaadjmejmpaa", sum := "88c6725d9bd6ad77fcdef00593522eff20a04a342d39f272ff89b0df45956ffe", func := "loop.example/g00825/laws.FnExactNormalSteps", spec := "fnExactNormalSteps", apart := false, narrowed := true }
def FnExactNormalStepsUptoSaid : Prop := fnExactNormalStepsUptoRow.holds Try.pinned (OpenSpec.upto fnExactNormalStepsSpec)

end Rows
end Go.Proofs.Ytnimaadjmejmpaa
