/-
  No cell of these rows narrows 'for every input' (looked for: loops, veiled, ifaces, maps, wideKeys, modest, calm, conditions, laid).
  DERIVED. THE GIVEN ROWS OF THIS SEAT. 9 by the template 'for every input the law returns true; each argument reads behind the call as it read before'; 0 by the template 'total and deterministic' (their statements: YtmgclbfjncnbbaaTotals.lean).
  GIVEN WITH THE SEED: the statements are not yours to turn. If you find one false, say at which input.
  Laid BY PROGRAM, IN A SANDBOX (cutbox-rows.mjs): the forced cells as the released guide's own fill.sh prints them over the translation 81dbd83cffd44bcd… (all of the seat's roots in one cut). By AI agents, Wed Nov 11 2026. No macro, syntax, notation, axiom, sorry.
-/
import Derived.Test.YtmgclbfjncnbbaaChecked
import GoSem.Claim
import GoSem.ClaimJoined
import GoSem.ClaimMapViews
import Derived.JoinedTies
import Derived.KernelRfl
namespace Go.Proofs.Ytmgclbfjncnbbaa
/- THE CELL 'sum', in the pinned program and in every row, IS THE sha256 OF THE DUMP (.gsa) THAT YtmgclbfjncnbbaaProg.lean LOADS. Nothing in Lean hashes anything: it is a label: what it is worth is what the hold of that sum in a sandbox is worth. -/
noncomputable def Try.pinned : Pinned := { name := "ytmgclbfjncnbbaa", sum := "81dbd83cffd44bcdb48c22885e5a28b879135e3b27270fcc00bf88f3bf7ca09f", checked := Try.checked }
namespace Rows
def none {H : Type} : Left H := { results := [], args := [] }

/-- 'laws.FnDiffs': WHATEVER THE INPUT: true; the input reads as it did. -/
def fnDiffsSpec : ChangeSpec := { name := "fnDiffs", fn := fun _ => fun
  | [d1, d2] => { results := [.lit (.bool true)], args := [d1, d2] }
  | _ => none }
def fnDiffsRow : OpenClaim := { program := "ytmgclbfjncnbbaa", sum := "81dbd83cffd44bcdb48c22885e5a28b879135e3b27270fcc00bf88f3bf7ca09f", func := "loop.example/g00825/laws.FnDiffs", spec := "fnDiffs", unfollowed := true, recurses := true, apart := false }
def FnDiffsSaid : Prop := fnDiffsRow.holds Try.pinned (OpenSpec.ofChange fnDiffsSpec)

/-- ITS FALSE NEIGHBOUR: 'it returns false'. Refute it at one input. -/
def fnDiffsWrong : ChangeSpec := { name := "fnDiffs", fn := fun _ => fun
  | [d1, d2] => { results := [.lit (.bool false)], args := [d1, d2] }
  | _ => none }
def FnDiffsWrongFalsely : Prop := fnDiffsRow.holds Try.pinned (OpenSpec.ofChange fnDiffsWrong)

/-- 'laws.FnCommon': WHATEVER THE INPUT: true; the input reads as it did. -/
def fnCommonSpec : ChangeSpec := { name := "fnCommon", fn := fun _ => fun
  | [d1, d2] => { results := [.lit (.bool true)], args := [d1, d2] }
  | _ => none }
def fnCommonRow : OpenClaim := { program := "ytmgclbfjncnbbaa", sum := "81dbd83cffd44bcdb48c22885e5a28b879135e3b27270fcc00bf88f3bf7ca09f", func := "loop.example/g00825/laws.FnCommon", spec := "fnCommon", unfollowed := true, recurses := true, apart := false }
def FnCommonSaid : Prop := fnCommonRow.holds Try.pinned (OpenSpec.ofChange fnCommonSpec)

/-- ITS FALSE NEIGHBOUR: 'it returns false'. Refute it at one input. -/
def fnCommonWrong : ChangeSpec := { name := "fnCommon", fn := fun _ => fun
  | [d1, d2] => { results := [.lit (.bool false)], args := [d1, d2] }
  | _ => none }
def FnCommonWrongFalsely : Prop := fnCommonRow.holds Try.pinned (OpenSpec.ofChange fnCommonWrong)

/-- 'laws.FnExactCommon': WHATEVER THE INPUT: true; the input reads as it did. -/
def fnExactCommonSpec : ChangeSpec := { name := "fnExactCommon", fn := fun _ => fun
  | [d1, d2] => { results := [.lit (.bool true)], args := [d1, d2] }
  | _ => none }
def fnExactCommonRow : OpenClaim := { program := "ytmgclbfjncnbbaa", sum := "81dbd83cffd44bcdb48c22885e5a28b879135e3b27270fcc00bf88f3bf7ca09f", func := "loop.example/g00825/laws.FnExactCommon", spec := "fnExactCommon", unfollowed := true, recurses := true, apart := false }
def FnExactCommonSaid : Prop := fnExactCommonRow.holds Try.pinned (OpenSpec.ofChange fnExactCommonSpec)

/-- ITS FALSE NEIGHBOUR: 'it returns false'. Refute it at one input. -/
def fnExactCommonWrong : ChangeSpec := { name := "fnExactCommon", fn := fun _ => fun
  | [d1, d2] => { results := [.lit (.bool false)], args := [d1, d2] }
  | _ => none }
def FnExactCommonWrongFalsely : Prop := fnExactCommonRow.holds Try.pinned (OpenSpec.ofChange fnExactCommonWrong)

/-- 'laws.FnExactCommonLines': WHATEVER THE INPUT: true; the input reads as it did. -/
def fnExactCommonLinesSpec : ChangeSpec := { name := "fnExactCommonLines", fn := fun _ => fun
  | [d1, d2] => { results := [.lit (.bool true)], args := [d1, d2] }
  | _ => none }
def fnExactCommonLinesRow : OpenClaim := { program := "ytmgclbfjncnbbaa", sum := "81dbd83cffd44bcdb48c22885e5a28b879135e3b27270fcc00bf88f3bf7ca09f", func := "loop.example/g00825/laws.FnExactCommonLines", spec := "fnExactCommonLines", unfollowed := true, recurses := true, apart := false }
def FnExactCommonLinesSaid : Prop := fnExactCommonLinesRow.holds Try.pinned (OpenSpec.ofChange fnExactCommonLinesSpec)

/-- ITS FALSE NEIGHBOUR: 'it returns false'. Refute it at one input. -/
def fnExactCommonLinesWrong : ChangeSpec := { name := "fnExactCommonLines", fn := fun _ => fun
  | [d1, d2] => { results := [.lit (.bool false)], args := [d1, d2] }
  | _ => none }
def FnExactCommonLinesWrongFalsely : Prop := fnExactCommonLinesRow.holds Try.pinned (OpenSpec.ofChange fnExactCommonLinesWrong)

/-- 'laws.FnExactDiffHunks': WHATEVER THE INPUT: true; the input reads as it did. -/
def fnExactDiffHunksSpec : ChangeSpec := { name := "fnExactDiffHunks", fn := fun _ => fun
  | [d1, d2] => { results := [.lit (.bool true)], args := [d1, d2] }
  | _ => none }
def fnExactDiffHunksRow : OpenClaim := { program := "ytmgclbfjncnbbaa", sum := "81dbd83cffd44bcdb48c22885e5a28b879135e3b27270fcc00bf88f3bf7ca09f", func := "loop.example/g00825/laws.FnExactDiffHunks", spec := "fnExactDiffHunks", unfollowed := true, recurses := true, apart := false }
def FnExactDiffHunksSaid : Prop := fnExactDiffHunksRow.holds Try.pinned (OpenSpec.ofChange fnExactDiffHunksSpec)

/-- ITS FALSE NEIGHBOUR: 'it returns false'. Refute it at one input. -/
def fnExactDiffHunksWrong : ChangeSpec := { name := "fnExactDiffHunks", fn := fun _ => fun
  | [d1, d2] => { results := [.lit (.bool false)], args := [d1, d2] }
  | _ => none }
def FnExactDiffHunksWrongFalsely : Prop := fnExactDiffHunksRow.holds Try.pinned (OpenSpec.ofChange fnExactDiffHunksWrong)

/-- 'laws.FnExactFarApart': WHATEVER THE INPUT: true; the input reads as it did. -/
def fnExactFarApartSpec : ChangeSpec := { name := "fnExactFarApart", fn := fun _ => fun
  | [d1, d2] => { results := [.lit (.bool true)], args := [d1, d2] }
  | _ => none }
def fnExactFarApartRow : OpenClaim := { program := "ytmgclbfjncnbbaa", sum := "81dbd83cffd44bcdb48c22885e5a28b879135e3b27270fcc00bf88f3bf7ca09f", func := "loop.example/g00825/laws.FnExactFarApart", spec := "fnExactFarApart", unfollowed := true, recurses := true, apart := false }
def FnExactFarApartSaid : Prop := fnExactFarApartRow.holds Try.pinned (OpenSpec.ofChange fnExactFarApartSpec)

/-- ITS FALSE NEIGHBOUR: 'it returns false'. Refute it at one input. -/
def fnExactFarApartWrong : ChangeSpec := { name := "fnExactFarApart", fn := fun _ => fun
  | [d1, d2] => { results := [.lit (.bool false)], args := [d1, d2] }
  | _ => none }
def FnExactFarApartWrongFalsely : Prop := fnExactFarApartRow.holds Try.pinned (OpenSpec.ofChange fnExactFarApartWrong)

/-- 'laws.FnExactIsLeast': WHATEVER THE INPUT: true; the input reads as it did. -/
def fnExactIsLeastSpec : ChangeSpec := { name := "fnExactIsLeast", fn := fun _ => fun
  | [d1, d2] => { results := [.lit (.bool true)], args := [d1, d2] }
  | _ => none }
def fnExactIsLeastRow : OpenClaim := { program := "ytmgclbfjncnbbaa", sum := "81dbd83cffd44bcdb48c22885e5a28b879135e3b27270fcc00bf88f3bf7ca09f", func := "loop.example/g00825/laws.FnExactIsLeast", spec := "fnExactIsLeast", unfollowed := true, recurses := true, apart := false }
def FnExactIsLeastSaid : Prop := fnExactIsLeastRow.holds Try.pinned (OpenSpec.ofChange fnExactIsLeastSpec)

/-- ITS FALSE NEIGHBOUR: 'it returns false'. Refute it at one input. -/
def fnExactIsLeastWrong : ChangeSpec := { name := "fnExactIsLeast", fn := fun _ => fun
  | [d1, d2] => { results := [.lit (.bool false)], args := [d1, d2] }
  | _ => none }
def FnExactIsLeastWrongFalsely : Prop := fnExactIsLeastRow.holds Try.pinned (OpenSpec.ofChange fnExactIsLeastWrong)

/-- 'laws.FnExactAlikeOf': WHATEVER THE INPUT: true; the input reads as it did. -/
def fnExactAlikeOfSpec : ChangeSpec := { name := "fnExactAlikeOf", fn := fun _ => fun
  | [d1, d2] => { results := [.lit (.bool true)], args := [d1, d2] }
  | _ => none }
def fnExactAlikeOfRow : OpenClaim := { program := "ytmgclbfjncnbbaa", sum := "81dbd83cffd44bcdb48c22885e5a28b879135e3b27270fcc00bf88f3bf7ca09f", func := "loop.example/g00825/laws.FnExactAlikeOf", spec := "fnExactAlikeOf", unfollowed := true, recurses := true, apart := false }
def FnExactAlikeOfSaid : Prop := fnExactAlikeOfRow.holds Try.pinned (OpenSpec.ofChange fnExactAlikeOfSpec)

/-- ITS FALSE NEIGHBOUR: 'it returns false'. Refute it at one input. -/
def fnExactAlikeOfWrong : ChangeSpec := { name := "fnExactAlikeOf", fn := fun _ => fun
  | [d1, d2] => { results := [.lit (.bool false)], args := [d1, d2] }
  | _ => none }
def FnExactAlikeOfWrongFalsely : Prop := fnExactAlikeOfRow.holds Try.pinned (OpenSpec.ofChange fnExactAlikeOfWrong)

/-- 'laws.FnExactNeedsHunks': WHATEVER THE INPUT: true; the input reads as it did. -/
def fnExactNeedsHunksSpec : ChangeSpec := { name := "fnExactNeedsHunks", fn := fun _ => fun
  | [d1, d2] => { results := [.lit (.bool true)], args := [d1, d2] }
  | _ => none }
def fnExactNeedsHunksRow : OpenClaim := { program := "ytmgclbfjncnbbaa", sum := "81dbd83cffd44bcdb48c22885e5a28b879135e3b27270fcc00bf88f3bf7ca09f", func := "loop.example/g00825/laws.FnExactNeedsHunks", spec := "fnExactNeedsHunks", unfollowed := true, recurses := true, apart := false }
def FnExactNeedsHunksSaid : Prop := fnExactNeedsHunksRow.holds Try.pinned (OpenSpec.ofChange fnExactNeedsHunksSpec)

/-- ITS FALSE NEIGHBOUR: 'it returns false'. Refute it at one input. -/
def fnExactNeedsHunksWrong : ChangeSpec := { name := "fnExactNeedsHunks", fn := fun _ => fun
  | [d1, d2] => { results := [.lit (.bool false)], args := [d1, d2] }
  | _ => none }
def FnExactNeedsHunksWrongFalsely : Prop := fnExactNeedsHunksRow.holds Try.pinned (OpenSpec.ofChange fnExactNeedsHunksWrong)

/- THE SECOND FORM. 'bulk': how many values and letters a reading holds, each counted each time it is reached (what is shared counts as often as it is met; a slice's spare places count too). A statement '..UptoSaid' is the law's where the arguments, and the package variables that the reading takes, are together of bulk at most 1048576: NARROWER than '..Said'. Prove '..Said' where nothing that the law and all that it calls make is longer than what came in: it says more and counts as full. Else prove '..UptoSaid'. A law counts once. -/
mutual
def uptoBulk {H : Type} : DataW H → Nat
  | .lit (.string bytes) => bytes.length + 1
  | .lit _ => 1
  | .nil => 1
  | .ptr d => uptoBulk d + 1
  | .slice elems spare => uptoBulkAll elems + uptoBulkAll spare + 1
  | .agg parts => uptoBulkAll parts + 1
  | .iface _ d => uptoBulk d + 1
  | .map entries => uptoBulkEntries entries + 1
  | .held _ => 1
def uptoBulkAll {H : Type} : List (DataW H) → Nat
  | [] => 0
  | d :: r => uptoBulk d + uptoBulkAll r
def uptoBulkEntries {H : Type} : List (Lit × DataW H) → Nat
  | [] => 0
  | x :: r => uptoBulkEntry x + uptoBulkEntries r
def uptoBulkEntry {H : Type} : Lit × DataW H → Nat
  | (.string bytes, d) => bytes.length + uptoBulk d + 1
  | (_, d) => uptoBulk d + 1
 end
def uptoSmall : (H : Type) → List (DataW H) → Bool := fun _ ds => decide (uptoBulkAll ds ≤ 1048576)
def OpenSpec.upto (s : _root_.Go.ChangeSpec) : _root_.Go.OpenSpec := { _root_.Go.OpenSpec.ofChange s with cond := some uptoSmall }

/-- 'laws.FnDiffs', WHERE WHAT IT READS IS OF BULK AT MOST 1048576: true; the input reads as it did. -/
def fnDiffsUptoRow : OpenClaim := { program := "ytmgclbfjncnbbaa", sum := "81dbd83cffd44bcdb48c22885e5a28b879135e3b27270fcc00bf88f3bf7ca09f", func := "loop.example/g00825/laws.FnDiffs", spec := "fnDiffs", unfollowed := true, recurses := true, apart := false, narrowed := true }
def FnDiffsUptoSaid : Prop := fnDiffsUptoRow.holds Try.pinned (OpenSpec.upto fnDiffsSpec)

/-- 'laws.FnCommon', WHERE WHAT IT READS IS OF BULK AT MOST 1048576: true; the input reads as it did. -/
def fnCommonUptoRow : OpenClaim := { program := "ytmgclbfjncnbbaa", sum := "81dbd83cffd44bcdb48c22885e5a28b879135e3b27270fcc00bf88f3bf7ca09f", func := "loop.example/g00825/laws.FnCommon", spec := "fnCommon", unfollowed := true, recurses := true, apart := false, narrowed := true }
def FnCommonUptoSaid : Prop := fnCommonUptoRow.holds Try.pinned (OpenSpec.upto fnCommonSpec)

/-- 'laws.FnExactCommon', WHERE WHAT IT READS IS OF BULK AT MOST 1048576: true; the input reads as it did. -/
def fnExactCommonUptoRow : OpenClaim := { program := "ytmgclbfjncnbbaa", sum := "81dbd83cffd44bcdb48c22885e5a28b879135e3b27270fcc00bf88f3bf7ca09f", func := "loop.example/g00825/laws.FnExactCommon", spec := "fnExactCommon", unfollowed := true, recurses := true, apart := false, narrowed := true }
def FnExactCommonUptoSaid : Prop := fnExactCommonUptoRow.holds Try.pinned (OpenSpec.upto fnExactCommonSpec)

/-- 'laws.FnExactCommonLines', WHERE WHAT IT READS IS OF BULK AT MOST 1048576: true; the input reads as it did. -/
def fnExactCommonLinesUptoRow : OpenClaim := { program := "ytmgclbfjncnbbaa", sum := "81dbd83cffd44bcdb48c22885e5a28b879135e3b27270fcc00bf88f3bf7ca09f", func := "loop.example/g00825/laws.FnExactCommonLines", spec := "fnExactCommonLines", unfollowed := true, recurses := true, apart := false, narrowed := true }
def FnExactCommonLinesUptoSaid : Prop := fnExactCommonLinesUptoRow.holds Try.pinned (OpenSpec.upto fnExactCommonLinesSpec)

/-- 'laws.FnExactDiffHunks', WHERE WHAT IT READS IS OF BULK AT MOST 1048576: true; the input reads as it did. -/
def fnExactDiffHunksUptoRow : OpenClaim := { program := "ytmgclbfjncnbbaa", sum := "81dbd83cffd44bcdb48c22885e5a28b879135e3b27270fcc00bf88f3bf7ca09f", func := "loop.example/g00825/laws.FnExactDiffHunks", spec := "fnExactDiffHunks", unfollowed := true, recurses := true, apart := false, narrowed := true }
def FnExactDiffHunksUptoSaid : Prop := fnExactDiffHunksUptoRow.holds Try.pinned (OpenSpec.upto fnExactDiffHunksSpec)

/-- 'laws.FnExactFarApart', WHERE WHAT IT READS IS OF BULK AT MOST 1048576: true; the input reads as it did. -/
def fnExactFarApartUptoRow : OpenClaim := { program := "ytmgclbfjncnbbaa", sum := "81dbd83cffd44bcdb48c22885e5a28b879135e3b27270fcc00bf88f3bf7ca09f", func := "loop.example/g00825/laws.FnExactFarApart", spec := "fnExactFarApart", unfollowed := true, recurses := true, apart := false, narrowed := true }
def FnExactFarApartUptoSaid : Prop := fnExactFarApartUptoRow.holds Try.pinned (OpenSpec.upto fnExactFarApartSpec)

/-- 'laws.FnExactIsLeast', WHERE WHAT IT READS IS OF BULK AT MOST 1048576: true; the input reads as it did. -/
def fnExactIsLeastUptoRow : OpenClaim := { program := "ytmgclbfjncnbbaa", sum := "81dbd83cffd44bcdb48c22885e5a28b879135e3b27270fcc00bf88f3bf7ca09f", func := "loop.example/g00825/laws.FnExactIsLeast", spec := "fnExactIsLeast", unfollowed := true, recurses := true, apart := false, narrowed := true }
def FnExactIsLeastUptoSaid : Prop := fnExactIsLeastUptoRow.holds Try.pinned (OpenSpec.upto fnExactIsLeastSpec)

/-- 'laws.FnExactAlikeOf', WHERE WHAT IT READS IS OF BULK AT MOST 1048576: true; the input reads as it did. -/
def fnExactAlikeOfUptoRow : OpenClaim := { program := "ytmgclbfjncnbbaa", sum := "81dbd83cffd44bcdb48c22885e5a28b879135e3b27270fcc00bf88f3bf7ca09f", func := "loop.example/g00825/laws.FnExactAlikeOf", spec := "fnExactAlikeOf", unfollowed := true, recurses := true, apart := false, narrowed := true }
def FnExactAlikeOfUptoSaid : Prop := fnExactAlikeOfUptoRow.holds Try.pinned (OpenSpec.upto fnExactAlikeOfSpec)

/-- 'laws.FnExactNeedsHunks', WHERE WHAT IT READS IS OF BULK AT MOST 1048576: true; the input reads as it did. -/
def fnExactNeedsHunksUptoRow : OpenClaim := { program := "ytmgclbfjncnbbaa", sum := "81dbd83cffd44bcdb48c22885e5a28b879135e3b27270fcc00bf88f3bf7ca09f", func := "loop.example/g00825/laws.FnExactNeedsHunks", spec := "fnExactNeedsHunks", unfollowed := true, recurses := true, apart := false, narrowed := true }
def FnExactNeedsHunksUptoSaid : Prop := fnExactNeedsHunksUptoRow.holds Try.pinned (OpenSpec.upto fnExactNeedsHunksSpec)

end Rows
end Go.Proofs.Ytmgclbfjncnbbaa
