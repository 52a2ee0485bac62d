/-
  No cell of these rows narrows 'for every input' (looked for: loops, veiled, ifaces, maps, wideKeys, modest, calm, conditions, laid).
  DERIVED. THE GIVEN ROWS OF THIS SEAT. 10 by the template 'for every input the law returns true; each argument reads behind the call as it read before'; 0 by the template 'total and deterministic' (their statements: YtlkodgkagjldaaaTotals.lean).
  GIVEN WITH THE SEED: the statements are not yours to turn. If you find one false, say at which input.
  Laid BY PROGRAM, IN A SANDBOX (cutbox-rows.mjs): the forced cells as the released guide's own fill.sh prints them over the translation eca613abe1193d10… (all of the seat's roots in one cut). By AI agents, Wed Nov 11 2026. No macro, syntax, notation, axiom, sorry.
-/
import Derived.Test.YtlkodgkagjldaaaChecked
import GoSem.Claim
import GoSem.ClaimJoined
import GoSem.ClaimMapViews
import Derived.JoinedTies
import Derived.KernelRfl
namespace Go.Proofs.Ytlkodgkagjldaaa
/- THE CELL 'sum', in the pinned program and in every row, IS THE sha256 OF THE DUMP (.gsa) THAT YtlkodgkagjldaaaProg.lean LOADS. Nothing in Lean hashes anything: it is a label: what it is worth is what the hold of that sum in a sandbox is worth. -/
noncomputable def Try.pinned : Pinned := { name := "ytlkodgkagjldaaa", sum := "eca613abe1193d10b56b21bff67196e76789f643bf52b554b95cd1c04c105841", checked := Try.checked }
namespace Rows
def none {H : Type} : Left H := { results := [], args := [] }

/-- 'laws.FnLines': WHATEVER THE INPUT: true; the input reads as it did. -/
def fnLinesSpec : ChangeSpec := { name := "fnLines", fn := fun _ => fun
  | [d1, d2] => { results := [.lit (.bool true)], args := [d1, d2] }
  | _ => none }
def fnLinesRow : OpenClaim := { program := "ytlkodgkagjldaaa", sum := "eca613abe1193d10b56b21bff67196e76789f643bf52b554b95cd1c04c105841", func := "loop.example/g00825/laws.FnLines", spec := "fnLines", inPlace := ["internal/abi.NoEscape", "internal/bytealg.MakeNoZero"], unfollowed := true, recurses := true, apart := false }
def FnLinesSaid : Prop := fnLinesRow.holds Try.pinned (OpenSpec.ofChange fnLinesSpec)

/-- ITS FALSE NEIGHBOUR: 'it returns false'. Refute it at one input. -/
def fnLinesWrong : ChangeSpec := { name := "fnLines", fn := fun _ => fun
  | [d1, d2] => { results := [.lit (.bool false)], args := [d1, d2] }
  | _ => none }
def FnLinesWrongFalsely : Prop := fnLinesRow.holds Try.pinned (OpenSpec.ofChange fnLinesWrong)

/-- 'laws.FnCutInTwo': WHATEVER THE INPUT: true; the input reads as it did. -/
def fnCutInTwoSpec : ChangeSpec := { name := "fnCutInTwo", fn := fun _ => fun
  | [d1, d2] => { results := [.lit (.bool true)], args := [d1, d2] }
  | _ => none }
def fnCutInTwoRow : OpenClaim := { program := "ytlkodgkagjldaaa", sum := "eca613abe1193d10b56b21bff67196e76789f643bf52b554b95cd1c04c105841", func := "loop.example/g00825/laws.FnCutInTwo", spec := "fnCutInTwo", apart := false }
def FnCutInTwoSaid : Prop := fnCutInTwoRow.holds Try.pinned (OpenSpec.ofChange fnCutInTwoSpec)

/-- ITS FALSE NEIGHBOUR: 'it returns false'. Refute it at one input. -/
def fnCutInTwoWrong : ChangeSpec := { name := "fnCutInTwo", fn := fun _ => fun
  | [d1, d2] => { results := [.lit (.bool false)], args := [d1, d2] }
  | _ => none }
def FnCutInTwoWrongFalsely : Prop := fnCutInTwoRow.holds Try.pinned (OpenSpec.ofChange fnCutInTwoWrong)

/-- 'laws.FnExactLinesOf': WHATEVER THE INPUT: true; the input reads as it did. -/
def fnExactLinesOfSpec : ChangeSpec := { name := "fnExactLinesOf", fn := fun _ => fun
  | [d] => { results := [.lit (.bool true)], args := [d] }
  | _ => none }
def fnExactLinesOfRow : OpenClaim := { program := "ytlkodgkagjldaaa", sum := "eca613abe1193d10b56b21bff67196e76789f643bf52b554b95cd1c04c105841", func := "loop.example/g00825/laws.FnExactLinesOf", spec := "fnExactLinesOf", unfollowed := true, recurses := true, apart := false }
def FnExactLinesOfSaid : Prop := fnExactLinesOfRow.holds Try.pinned (OpenSpec.ofChange fnExactLinesOfSpec)

/-- ITS FALSE NEIGHBOUR: 'it returns false'. Refute it at one input. -/
def fnExactLinesOfWrong : ChangeSpec := { name := "fnExactLinesOf", fn := fun _ => fun
  | [d] => { results := [.lit (.bool false)], args := [d] }
  | _ => none }
def FnExactLinesOfWrongFalsely : Prop := fnExactLinesOfRow.holds Try.pinned (OpenSpec.ofChange fnExactLinesOfWrong)

/-- 'laws.FnExactGoodLines': WHATEVER THE INPUT: true; the input reads as it did. -/
def fnExactGoodLinesSpec : ChangeSpec := { name := "fnExactGoodLines", fn := fun _ => fun
  | [d] => { results := [.lit (.bool true)], args := [d] }
  | _ => none }
def fnExactGoodLinesRow : OpenClaim := { program := "ytlkodgkagjldaaa", sum := "eca613abe1193d10b56b21bff67196e76789f643bf52b554b95cd1c04c105841", func := "loop.example/g00825/laws.FnExactGoodLines", spec := "fnExactGoodLines", apart := false }
def FnExactGoodLinesSaid : Prop := fnExactGoodLinesRow.holds Try.pinned (OpenSpec.ofChange fnExactGoodLinesSpec)

/-- ITS FALSE NEIGHBOUR: 'it returns false'. Refute it at one input. -/
def fnExactGoodLinesWrong : ChangeSpec := { name := "fnExactGoodLines", fn := fun _ => fun
  | [d] => { results := [.lit (.bool false)], args := [d] }
  | _ => none }
def FnExactGoodLinesWrongFalsely : Prop := fnExactGoodLinesRow.holds Try.pinned (OpenSpec.ofChange fnExactGoodLinesWrong)

/-- 'laws.FnExactTextOf': WHATEVER THE INPUT: true; the input reads as it did. -/
def fnExactTextOfSpec : ChangeSpec := { name := "fnExactTextOf", fn := fun _ => fun
  | [d] => { results := [.lit (.bool true)], args := [d] }
  | _ => none }
def fnExactTextOfRow : OpenClaim := { program := "ytlkodgkagjldaaa", sum := "eca613abe1193d10b56b21bff67196e76789f643bf52b554b95cd1c04c105841", func := "loop.example/g00825/laws.FnExactTextOf", spec := "fnExactTextOf", inPlace := ["internal/abi.NoEscape", "internal/bytealg.MakeNoZero"], apart := false }
def FnExactTextOfSaid : Prop := fnExactTextOfRow.holds Try.pinned (OpenSpec.ofChange fnExactTextOfSpec)

/-- ITS FALSE NEIGHBOUR: 'it returns false'. Refute it at one input. -/
def fnExactTextOfWrong : ChangeSpec := { name := "fnExactTextOf", fn := fun _ => fun
  | [d] => { results := [.lit (.bool false)], args := [d] }
  | _ => none }
def FnExactTextOfWrongFalsely : Prop := fnExactTextOfRow.holds Try.pinned (OpenSpec.ofChange fnExactTextOfWrong)

/-- 'laws.FnExactIsWhole': WHATEVER THE INPUT: true; the input reads as it did. -/
def fnExactIsWholeSpec : ChangeSpec := { name := "fnExactIsWhole", fn := fun _ => fun
  | [d] => { results := [.lit (.bool true)], args := [d] }
  | _ => none }
def fnExactIsWholeRow : OpenClaim := { program := "ytlkodgkagjldaaa", sum := "eca613abe1193d10b56b21bff67196e76789f643bf52b554b95cd1c04c105841", func := "loop.example/g00825/laws.FnExactIsWhole", spec := "fnExactIsWhole", apart := false }
def FnExactIsWholeSaid : Prop := fnExactIsWholeRow.holds Try.pinned (OpenSpec.ofChange fnExactIsWholeSpec)

/-- ITS FALSE NEIGHBOUR: 'it returns false'. Refute it at one input. -/
def fnExactIsWholeWrong : ChangeSpec := { name := "fnExactIsWhole", fn := fun _ => fun
  | [d] => { results := [.lit (.bool false)], args := [d] }
  | _ => none }
def FnExactIsWholeWrongFalsely : Prop := fnExactIsWholeRow.holds Try.pinned (OpenSpec.ofChange fnExactIsWholeWrong)

/-- 'laws.FnExactSameAhead': WHATEVER THE INPUT: true; the input reads as it did. -/
def fnExactSameAheadSpec : ChangeSpec := { name := "fnExactSameAhead", fn := fun _ => fun
  | [d1, d2] => { results := [.lit (.bool true)], args := [d1, d2] }
  | _ => none }
def fnExactSameAheadRow : OpenClaim := { program := "ytlkodgkagjldaaa", sum := "eca613abe1193d10b56b21bff67196e76789f643bf52b554b95cd1c04c105841", func := "loop.example/g00825/laws.FnExactSameAhead", spec := "fnExactSameAhead", apart := false }
def FnExactSameAheadSaid : Prop := fnExactSameAheadRow.holds Try.pinned (OpenSpec.ofChange fnExactSameAheadSpec)

/-- ITS FALSE NEIGHBOUR: 'it returns false'. Refute it at one input. -/
def fnExactSameAheadWrong : ChangeSpec := { name := "fnExactSameAhead", fn := fun _ => fun
  | [d1, d2] => { results := [.lit (.bool false)], args := [d1, d2] }
  | _ => none }
def FnExactSameAheadWrongFalsely : Prop := fnExactSameAheadRow.holds Try.pinned (OpenSpec.ofChange fnExactSameAheadWrong)

/-- 'laws.FnExactSameBehind': WHATEVER THE INPUT: true; the input reads as it did. -/
def fnExactSameBehindSpec : ChangeSpec := { name := "fnExactSameBehind", fn := fun _ => fun
  | [d1, d2] => { results := [.lit (.bool true)], args := [d1, d2] }
  | _ => none }
def fnExactSameBehindRow : OpenClaim := { program := "ytlkodgkagjldaaa", sum := "eca613abe1193d10b56b21bff67196e76789f643bf52b554b95cd1c04c105841", func := "loop.example/g00825/laws.FnExactSameBehind", spec := "fnExactSameBehind", apart := false }
def FnExactSameBehindSaid : Prop := fnExactSameBehindRow.holds Try.pinned (OpenSpec.ofChange fnExactSameBehindSpec)

/-- ITS FALSE NEIGHBOUR: 'it returns false'. Refute it at one input. -/
def fnExactSameBehindWrong : ChangeSpec := { name := "fnExactSameBehind", fn := fun _ => fun
  | [d1, d2] => { results := [.lit (.bool false)], args := [d1, d2] }
  | _ => none }
def FnExactSameBehindWrongFalsely : Prop := fnExactSameBehindRow.holds Try.pinned (OpenSpec.ofChange fnExactSameBehindWrong)

/-- 'laws.FnExactPartOf': WHATEVER THE INPUT: true; the input reads as it did. -/
def fnExactPartOfSpec : ChangeSpec := { name := "fnExactPartOf", fn := fun _ => fun
  | [d1, d2, d3] => { results := [.lit (.bool true)], args := [d1, d2, d3] }
  | _ => none }
def fnExactPartOfRow : OpenClaim := { program := "ytlkodgkagjldaaa", sum := "eca613abe1193d10b56b21bff67196e76789f643bf52b554b95cd1c04c105841", func := "loop.example/g00825/laws.FnExactPartOf", spec := "fnExactPartOf", apart := false }
def FnExactPartOfSaid : Prop := fnExactPartOfRow.holds Try.pinned (OpenSpec.ofChange fnExactPartOfSpec)

/-- ITS FALSE NEIGHBOUR: 'it returns false'. Refute it at one input. -/
def fnExactPartOfWrong : ChangeSpec := { name := "fnExactPartOf", fn := fun _ => fun
  | [d1, d2, d3] => { results := [.lit (.bool false)], args := [d1, d2, d3] }
  | _ => none }
def FnExactPartOfWrongFalsely : Prop := fnExactPartOfRow.holds Try.pinned (OpenSpec.ofChange fnExactPartOfWrong)

/-- 'laws.FnExactPlainOf': WHATEVER THE INPUT: true; the input reads as it did. -/
def fnExactPlainOfSpec : ChangeSpec := { name := "fnExactPlainOf", fn := fun _ => fun
  | [d] => { results := [.lit (.bool true)], args := [d] }
  | _ => none }
def fnExactPlainOfRow : OpenClaim := { program := "ytlkodgkagjldaaa", sum := "eca613abe1193d10b56b21bff67196e76789f643bf52b554b95cd1c04c105841", func := "loop.example/g00825/laws.FnExactPlainOf", spec := "fnExactPlainOf", apart := false }
def FnExactPlainOfSaid : Prop := fnExactPlainOfRow.holds Try.pinned (OpenSpec.ofChange fnExactPlainOfSpec)

/-- ITS FALSE NEIGHBOUR: 'it returns false'. Refute it at one input. -/
def fnExactPlainOfWrong : ChangeSpec := { name := "fnExactPlainOf", fn := fun _ => fun
  | [d] => { results := [.lit (.bool false)], args := [d] }
  | _ => none }
def FnExactPlainOfWrongFalsely : Prop := fnExactPlainOfRow.holds Try.pinned (OpenSpec.ofChange fnExactPlainOfWrong)

/- THE SECOND FORM. 'bulk': how many values and letters a reading holds, each counted each time it is reached (what is shared counts as often as it is met; a slice's spare places count too). A statement '..UptoSaid' is the law's where the arguments, and the package variables that the reading takes, are together of bulk at most 1048576: NARROWER than '..Said'. Prove '..Said' where nothing that the law and all that it calls make is longer than what came in: it says more and counts as full. Else prove '..UptoSaid'. A law counts once. -/
mutual
def uptoBulk {H : Type} : DataW H → Nat
  | .lit (.string bytes) => bytes.length + 1
  | .lit _ => 1
  | .nil => 1
  | .ptr d => uptoBulk d + 1
  | .slice elems spare => uptoBulkAll elems + uptoBulkAll spare + 1
  | .agg parts => uptoBulkAll parts + 1
  | .iface _ d => uptoBulk d + 1
  | .map entries => uptoBulkEntries entries + 1
  | .held _ => 1
def uptoBulkAll {H : Type} : List (DataW H) → Nat
  | [] => 0
  | d :: r => uptoBulk d + uptoBulkAll r
def uptoBulkEntries {H : Type} : List (Lit × DataW H) → Nat
  | [] => 0
  | x :: r => uptoBulkEntry x + uptoBulkEntries r
def uptoBulkEntry {H : Type} : Lit × DataW H → Nat
  | (.string bytes, d) => bytes.length + uptoBulk d + 1
  | (_, d) => uptoBulk d + 1
 end
def uptoSmall : (H : Type) → List (DataW H) → Bool := fun _ ds => decide (uptoBulkAll ds ≤ 1048576)
def OpenSpec.upto (s : _root_.Go.ChangeSpec) : _root_.Go.OpenSpec := { _root_.Go.OpenSpec.ofChange s with cond := some uptoSmall }

/-- 'laws.FnLines', WHERE WHAT IT READS IS OF BULK AT MOST 1048576: true; the input reads as it did. -/
def fnLinesUptoRow : OpenClaim := { program := "ytlkodgkagjldaaa", sum := "eca613abe1193d10b56b21bff67196e76789f643bf52b554b95cd1c04c105841", func := "loop.example/g00825/laws.FnLines", spec := "fnLines", inPlace := ["internal/abi.NoEscape", "internal/bytealg.MakeNoZero"], unfollowed := true, recurses := true, apart := false, narrowed := true }
def FnLinesUptoSaid : Prop := fnLinesUptoRow.holds Try.pinned (OpenSpec.upto fnLinesSpec)

/-- 'laws.FnCutInTwo', WHERE WHAT IT READS IS OF BULK AT MOST 1048576: true; the input reads as it did. -/
def fnCutInTwoUptoRow : OpenClaim := { program := "ytlkodgkagjldaaa", sum := "eca613abe1193d10b56b21bff67196e76789f643bf52b554b95cd1c04c105841", func := "loop.example/g00825/laws.FnCutInTwo", spec := "fnCutInTwo", apart := false, narrowed := true }
def FnCutInTwoUptoSaid : Prop := fnCutInTwoUptoRow.holds Try.pinned (OpenSpec.upto fnCutInTwoSpec)

/-- 'laws.FnExactLinesOf', WHERE WHAT IT READS IS OF BULK AT MOST 1048576: true; the input reads as it did. -/
def fnExactLinesOfUptoRow : OpenClaim := { program := "ytlkodgkagjldaaa", sum := "eca613abe1193d10b56b21bff67196e76789f643bf52b554b95cd1c04c105841", func := "loop.example/g00825/laws.FnExactLinesOf", spec := "fnExactLinesOf", unfollowed := true, recurses := true, apart := false, narrowed := true }
def FnExactLinesOfUptoSaid : Prop := fnExactLinesOfUptoRow.holds Try.pinned (OpenSpec.upto fnExactLinesOfSpec)

/-- 'laws.FnExactGoodLines', WHERE WHAT IT READS IS OF BULK AT MOST 1048576: true; the input reads as it did. -/
def fnExactGoodLinesUptoRow : OpenClaim := { program := "ytlkodgkagjldaaa", sum := "eca613abe1193d10b56b21bff67196e76789f643bf52b554b95cd1c04c105841", func := "loop.example/g00825/laws.FnExactGoodLines", spec := "fnExactGoodLines", apart := false, narrowed := true }
def FnExactGoodLinesUptoSaid : Prop := fnExactGoodLinesUptoRow.holds Try.pinned (OpenSpec.upto fnExactGoodLinesSpec)

/-- 'laws.FnExactTextOf', WHERE WHAT IT READS IS OF BULK AT MOST 1048576: true; the input reads as it did. -/
def fnExactTextOfUptoRow : OpenClaim := { program := "ytlkodgkagjldaaa", sum := "eca613abe1193d10b56b21bff67196e76789f643bf52b554b95cd1c04c105841", func := "loop.example/g00825/laws.FnExactTextOf", spec := "fnExactTextOf", inPlace := ["internal/abi.NoEscape", "internal/bytealg.MakeNoZero"], apart := false, narrowed := true }
def FnExactTextOfUptoSaid : Prop := fnExactTextOfUptoRow.holds Try.pinned (OpenSpec.upto fnExactTextOfSpec)

/-- 'laws.FnExactIsWhole', WHERE WHAT IT READS IS OF BULK AT MOST 1048576: true; the input reads as it did. -/
def fnExactIsWholeUptoRow : OpenClaim := { program := "ytlkodgkagjldaaa", sum := "eca613abe1193d10b56b21bff67196e76789f643bf52b554b95cd1c04c105841", func := "loop.example/g00825/laws.FnExactIsWhole", spec := "fnExactIsWhole", apart := false, narrowed := true }
def FnExactIsWholeUptoSaid : Prop := fnExactIsWholeUptoRow.holds Try.pinned (OpenSpec.upto fnExactIsWholeSpec)

/-- 'laws.FnExactSameAhead', WHERE WHAT IT READS IS OF BULK AT MOST 1048576: true; the input reads as it did. -/
def fnExactSameAheadUptoRow : OpenClaim := { program := "ytlkodgkagjldaaa", sum := "eca613abe1193d10b56b21bff67196e76789f643bf52b554b95cd1c04c105841", func := "loop.example/g00825/laws.FnExactSameAhead", spec := "fnExactSameAhead", apart := false, narrowed := true }
def FnExactSameAheadUptoSaid : Prop := fnExactSameAheadUptoRow.holds Try.pinned (OpenSpec.upto fnExactSameAheadSpec)

/-- 'laws.FnExactSameBehind', WHERE WHAT IT READS IS OF BULK AT MOST 1048576: true; the input reads as it did. -/
def fnExactSameBehindUptoRow : OpenClaim := { program := "ytlkodgkagjldaaa", sum := "eca613abe1193d10b56b21bff67196e76789f643bf52b554b95cd1c04c105841", func := "loop.example/g00825/laws.FnExactSameBehind", spec := "fnExactSameBehind", apart := false, narrowed := true }
def FnExactSameBehindUptoSaid : Prop := fnExactSameBehindUptoRow.holds Try.pinned (OpenSpec.upto fnExactSameBehindSpec)

/-- 'laws.FnExactPartOf', WHERE WHAT IT READS IS OF BULK AT MOST 1048576: true; the input reads as it did. -/
def fnExactPartOfUptoRow : OpenClaim := { program := "ytlkodgkagjldaaa", sum := "eca613abe1193d10b56b21bff67196e76789f643bf52b554b95cd1c04c105841", func := "loop.example/g00825/laws.FnExactPartOf", spec := "fnExactPartOf", apart := false, narrowed := true }
def FnExactPartOfUptoSaid : Prop := fnExactPartOfUptoRow.holds Try.pinned (OpenSpec.upto fnExactPartOfSpec)

/-- 'laws.FnExactPlainOf', WHERE WHAT IT READS IS OF BULK AT MOST 1048576: true; the input reads as it did. -/
def fnExactPlainOfUptoRow : OpenClaim := { program := "ytlkodgkagjldaaa", sum := "eca613abe1193d10b56b21bff67196e76789f643bf52b554b95cd1c04c105841", func := "loop.example/g00825/laws.FnExactPlainOf", spec := "fnExactPlainOf", apart := false, narrowed := true }
def FnExactPlainOfUptoSaid : Prop := fnExactPlainOfUptoRow.holds Try.pinned (OpenSpec.upto fnExactPlainOfSpec)

end Rows
end Go.Proofs.Ytlkodgkagjldaaa
