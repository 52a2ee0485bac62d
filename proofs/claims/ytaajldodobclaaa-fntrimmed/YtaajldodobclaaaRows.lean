/-
  No cell of these rows narrows 'for every input' (looked for: loops, veiled, ifaces, maps, wideKeys, modest, calm, conditions, laid).
  DERIVED. THE GIVEN ROWS OF THIS SEAT. 10 by the template 'for every input the law returns true; each argument reads behind the call as it read before'; 0 by the template 'total and deterministic' (their statements: YtaajldodobclaaaTotals.lean).
  GIVEN WITH THE SEED: the statements are not yours to turn. If you find one false, say at which input.
  Laid BY PROGRAM, IN A SANDBOX (cutbox-rows.mjs): the forced cells as the released guide's own fill.sh prints them over the translation ec707dfb407172ef… (all of the seat's roots in one cut). By AI agents, Wed Nov 11 2026. No macro, syntax, notation, axiom, sorry.
-/
import Derived.Test.YtaajldodobclaaaChecked
import GoSem.Claim
import GoSem.ClaimJoined
import GoSem.ClaimMapViews
import Derived.JoinedTies
import Derived.KernelRfl
namespace Go.Proofs.Ytaajldodobclaaa
/- THE CELL 'sum', in the pinned program and in every row, IS THE sha256 OF THE DUMP (.gsa) THAT YtaajldodobclaaaProg.lean LOADS. Nothing in Lean hashes anything: it is a label: what it is worth is what the hold of that sum in a sandbox is worth. -/
noncomputable def Try.pinned : Pinned := { name := "ytaajldodobclaaa", sum := "ec707dfb407172ef3fb582645be30c11fab2babef187d982f4116148f909347e", checked := Try.checked }
namespace Rows
def none {H : Type} : Left H := { results := [], args := [] }

/-- 'laws.FnPatches': WHATEVER THE INPUT: true; the input reads as it did. -/
def fnPatchesSpec : ChangeSpec := { name := "fnPatches", fn := fun _ => fun
  | [d1, d2] => { results := [.lit (.bool true)], args := [d1, d2] }
  | _ => none }
def fnPatchesRow : OpenClaim := { program := "ytaajldodobclaaa", sum := "ec707dfb407172ef3fb582645be30c11fab2babef187d982f4116148f909347e", func := "loop.example/g00825/laws.FnPatches", spec := "fnPatches", unfollowed := true, recurses := true, apart := false }
def FnPatchesSaid : Prop := fnPatchesRow.holds Try.pinned (OpenSpec.ofChange fnPatchesSpec)

/-- ITS FALSE NEIGHBOUR: 'it returns false'. Refute it at one input. -/
def fnPatchesWrong : ChangeSpec := { name := "fnPatches", fn := fun _ => fun
  | [d1, d2] => { results := [.lit (.bool false)], args := [d1, d2] }
  | _ => none }
def FnPatchesWrongFalsely : Prop := fnPatchesRow.holds Try.pinned (OpenSpec.ofChange fnPatchesWrong)

/-- 'laws.FnTrimmed': WHATEVER THE INPUT: true; the input reads as it did. -/
def fnTrimmedSpec : ChangeSpec := { name := "fnTrimmed", fn := fun _ => fun
  | [d1, d2] => { results := [.lit (.bool true)], args := [d1, d2] }
  | _ => none }
def fnTrimmedRow : OpenClaim := { program := "ytaajldodobclaaa", sum := "ec707dfb407172ef3fb582645be30c11fab2babef187d982f4116148f909347e", func := "loop.example/g00825/laws.FnTrimmed", spec := "fnTrimmed", apart := false }
def FnTrimmedSaid : Prop := fnTrimmedRow.holds Try.pinned (OpenSpec.ofChange fnTrimmedSpec)

/-- ITS FALSE NEIGHBOUR: 'it returns false'. Refute it at one input. -/
def fnTrimmedWrong : ChangeSpec := { name := "fnTrimmed", fn := fun _ => fun
  | [d1, d2] => { results := [.lit (.bool false)], args := [d1, d2] }
  | _ => none }
def FnTrimmedWrongFalsely : Prop := fnTrimmedRow.holds Try.pinned (OpenSpec.ofChange fnTrimmedWrong)

/-- 'laws.FnJoined': WHATEVER THE INPUT: true; the input reads as it did. -/
def fnJoinedSpec : ChangeSpec := { name := "fnJoined", fn := fun _ => fun
  | [d1, d2] => { results := [.lit (.bool true)], args := [d1, d2] }
  | _ => none }
def fnJoinedRow : OpenClaim := { program := "ytaajldodobclaaa", sum := "ec707dfb407172ef3fb582645be30c11fab2babef187d982f4116148f909347e", func := "loop.example/g00825/laws.FnJoined", spec := "fnJoined", apart := false }
def FnJoinedSaid : Prop := fnJoinedRow.holds Try.pinned (OpenSpec.ofChange fnJoinedSpec)

/-- ITS FALSE NEIGHBOUR: 'it returns false'. Refute it at one input. -/
def fnJoinedWrong : ChangeSpec := { name := "fnJoined", fn := fun _ => fun
  | [d1, d2] => { results := [.lit (.bool false)], args := [d1, d2] }
  | _ => none }
def FnJoinedWrongFalsely : Prop := fnJoinedRow.holds Try.pinned (OpenSpec.ofChange fnJoinedWrong)

/-- 'laws.FnExactGoodHunks': WHATEVER THE INPUT: true; the input reads as it did. -/
def fnExactGoodHunksSpec : ChangeSpec := { name := "fnExactGoodHunks", fn := fun _ => fun
  | [d1, d2] => { results := [.lit (.bool true)], args := [d1, d2] }
  | _ => none }
def fnExactGoodHunksRow : OpenClaim := { program := "ytaajldodobclaaa", sum := "ec707dfb407172ef3fb582645be30c11fab2babef187d982f4116148f909347e", func := "loop.example/g00825/laws.FnExactGoodHunks", spec := "fnExactGoodHunks", apart := false }
def FnExactGoodHunksSaid : Prop := fnExactGoodHunksRow.holds Try.pinned (OpenSpec.ofChange fnExactGoodHunksSpec)

/-- ITS FALSE NEIGHBOUR: 'it returns false'. Refute it at one input. -/
def fnExactGoodHunksWrong : ChangeSpec := { name := "fnExactGoodHunks", fn := fun _ => fun
  | [d1, d2] => { results := [.lit (.bool false)], args := [d1, d2] }
  | _ => none }
def FnExactGoodHunksWrongFalsely : Prop := fnExactGoodHunksRow.holds Try.pinned (OpenSpec.ofChange fnExactGoodHunksWrong)

/-- 'laws.FnExactPatch': WHATEVER THE INPUT: true; the input reads as it did. -/
def fnExactPatchSpec : ChangeSpec := { name := "fnExactPatch", fn := fun _ => fun
  | [d1, d2] => { results := [.lit (.bool true)], args := [d1, d2] }
  | _ => none }
def fnExactPatchRow : OpenClaim := { program := "ytaajldodobclaaa", sum := "ec707dfb407172ef3fb582645be30c11fab2babef187d982f4116148f909347e", func := "loop.example/g00825/laws.FnExactPatch", spec := "fnExactPatch", apart := false }
def FnExactPatchSaid : Prop := fnExactPatchRow.holds Try.pinned (OpenSpec.ofChange fnExactPatchSpec)

/-- ITS FALSE NEIGHBOUR: 'it returns false'. Refute it at one input. -/
def fnExactPatchWrong : ChangeSpec := { name := "fnExactPatch", fn := fun _ => fun
  | [d1, d2] => { results := [.lit (.bool false)], args := [d1, d2] }
  | _ => none }
def FnExactPatchWrongFalsely : Prop := fnExactPatchRow.holds Try.pinned (OpenSpec.ofChange fnExactPatchWrong)

/-- 'laws.FnExactBackHunks': WHATEVER THE INPUT: true; the input reads as it did. -/
def fnExactBackHunksSpec : ChangeSpec := { name := "fnExactBackHunks", fn := fun _ => fun
  | [d1, d2] => { results := [.lit (.bool true)], args := [d1, d2] }
  | _ => none }
def fnExactBackHunksRow : OpenClaim := { program := "ytaajldodobclaaa", sum := "ec707dfb407172ef3fb582645be30c11fab2babef187d982f4116148f909347e", func := "loop.example/g00825/laws.FnExactBackHunks", spec := "fnExactBackHunks", apart := false }
def FnExactBackHunksSaid : Prop := fnExactBackHunksRow.holds Try.pinned (OpenSpec.ofChange fnExactBackHunksSpec)

/-- ITS FALSE NEIGHBOUR: 'it returns false'. Refute it at one input. -/
def fnExactBackHunksWrong : ChangeSpec := { name := "fnExactBackHunks", fn := fun _ => fun
  | [d1, d2] => { results := [.lit (.bool false)], args := [d1, d2] }
  | _ => none }
def FnExactBackHunksWrongFalsely : Prop := fnExactBackHunksRow.holds Try.pinned (OpenSpec.ofChange fnExactBackHunksWrong)

/-- 'laws.FnExactTrimHunks': WHATEVER THE INPUT: true; the input reads as it did. -/
def fnExactTrimHunksSpec : ChangeSpec := { name := "fnExactTrimHunks", fn := fun _ => fun
  | [d1, d2] => { results := [.lit (.bool true)], args := [d1, d2] }
  | _ => none }
def fnExactTrimHunksRow : OpenClaim := { program := "ytaajldodobclaaa", sum := "ec707dfb407172ef3fb582645be30c11fab2babef187d982f4116148f909347e", func := "loop.example/g00825/laws.FnExactTrimHunks", spec := "fnExactTrimHunks", apart := false }
def FnExactTrimHunksSaid : Prop := fnExactTrimHunksRow.holds Try.pinned (OpenSpec.ofChange fnExactTrimHunksSpec)

/-- ITS FALSE NEIGHBOUR: 'it returns false'. Refute it at one input. -/
def fnExactTrimHunksWrong : ChangeSpec := { name := "fnExactTrimHunks", fn := fun _ => fun
  | [d1, d2] => { results := [.lit (.bool false)], args := [d1, d2] }
  | _ => none }
def FnExactTrimHunksWrongFalsely : Prop := fnExactTrimHunksRow.holds Try.pinned (OpenSpec.ofChange fnExactTrimHunksWrong)

/-- 'laws.FnExactJoinHunks': WHATEVER THE INPUT: true; the input reads as it did. -/
def fnExactJoinHunksSpec : ChangeSpec := { name := "fnExactJoinHunks", fn := fun _ => fun
  | [d1, d2, d3] => { results := [.lit (.bool true)], args := [d1, d2, d3] }
  | _ => none }
def fnExactJoinHunksRow : OpenClaim := { program := "ytaajldodobclaaa", sum := "ec707dfb407172ef3fb582645be30c11fab2babef187d982f4116148f909347e", func := "loop.example/g00825/laws.FnExactJoinHunks", spec := "fnExactJoinHunks", apart := false }
def FnExactJoinHunksSaid : Prop := fnExactJoinHunksRow.holds Try.pinned (OpenSpec.ofChange fnExactJoinHunksSpec)

/-- ITS FALSE NEIGHBOUR: 'it returns false'. Refute it at one input. -/
def fnExactJoinHunksWrong : ChangeSpec := { name := "fnExactJoinHunks", fn := fun _ => fun
  | [d1, d2, d3] => { results := [.lit (.bool false)], args := [d1, d2, d3] }
  | _ => none }
def FnExactJoinHunksWrongFalsely : Prop := fnExactJoinHunksRow.holds Try.pinned (OpenSpec.ofChange fnExactJoinHunksWrong)

/-- 'laws.FnExactSameHunks': WHATEVER THE INPUT: true; the input reads as it did. -/
def fnExactSameHunksSpec : ChangeSpec := { name := "fnExactSameHunks", fn := fun _ => fun
  | [d1, d2] => { results := [.lit (.bool true)], args := [d1, d2] }
  | _ => none }
def fnExactSameHunksRow : OpenClaim := { program := "ytaajldodobclaaa", sum := "ec707dfb407172ef3fb582645be30c11fab2babef187d982f4116148f909347e", func := "loop.example/g00825/laws.FnExactSameHunks", spec := "fnExactSameHunks", unfollowed := true, recurses := true, apart := false }
def FnExactSameHunksSaid : Prop := fnExactSameHunksRow.holds Try.pinned (OpenSpec.ofChange fnExactSameHunksSpec)

/-- ITS FALSE NEIGHBOUR: 'it returns false'. Refute it at one input. -/
def fnExactSameHunksWrong : ChangeSpec := { name := "fnExactSameHunks", fn := fun _ => fun
  | [d1, d2] => { results := [.lit (.bool false)], args := [d1, d2] }
  | _ => none }
def FnExactSameHunksWrongFalsely : Prop := fnExactSameHunksRow.holds Try.pinned (OpenSpec.ofChange fnExactSameHunksWrong)

/-- 'laws.FnExactPlaceOf': WHATEVER THE INPUT: true; the input reads as it did. -/
def fnExactPlaceOfSpec : ChangeSpec := { name := "fnExactPlaceOf", fn := fun _ => fun
  | [d1, d2, d3] => { results := [.lit (.bool true)], args := [d1, d2, d3] }
  | _ => none }
def fnExactPlaceOfRow : OpenClaim := { program := "ytaajldodobclaaa", sum := "ec707dfb407172ef3fb582645be30c11fab2babef187d982f4116148f909347e", func := "loop.example/g00825/laws.FnExactPlaceOf", spec := "fnExactPlaceOf", apart := false }
def FnExactPlaceOfSaid : Prop := fnExactPlaceOfRow.holds Try.pinned (OpenSpec.ofChange fnExactPlaceOfSpec)

/-- ITS FALSE NEIGHBOUR: 'it returns false'. Refute it at one input. -/
def fnExactPlaceOfWrong : ChangeSpec := { name := "fnExactPlaceOf", fn := fun _ => fun
  | [d1, d2, d3] => { results := [.lit (.bool false)], args := [d1, d2, d3] }
  | _ => none }
def FnExactPlaceOfWrongFalsely : Prop := fnExactPlaceOfRow.holds Try.pinned (OpenSpec.ofChange fnExactPlaceOfWrong)

/- THE SECOND FORM. 'bulk': how many values and letters a reading holds, each counted each time it is reached (what is shared counts as often as it is met; a slice's spare places count too). A statement '..UptoSaid' is the law's where the arguments, and the package variables that the reading takes, are together of bulk at most 1048576: NARROWER than '..Said'. Prove '..Said' where nothing that the law and all that it calls make is longer than what came in: it says more and counts as full. Else prove '..UptoSaid'. A law counts once. -/
mutual
def uptoBulk {H : Type} : DataW H → Nat
  | .lit (.string bytes) => bytes.length + 1
  | .lit _ => 1
  | .nil => 1
  | .ptr d => uptoBulk d + 1
  | .slice elems spare => uptoBulkAll elems + uptoBulkAll spare + 1
  | .agg parts => uptoBulkAll parts + 1
  | .iface _ d => uptoBulk d + 1
  | .map entries => uptoBulkEntries entries + 1
  | .held _ => 1
def uptoBulkAll {H : Type} : List (DataW H) → Nat
  | [] => 0
  | d :: r => uptoBulk d + uptoBulkAll r
def uptoBulkEntries {H : Type} : List (Lit × DataW H) → Nat
  | [] => 0
  | x :: r => uptoBulkEntry x + uptoBulkEntries r
def uptoBulkEntry {H : Type} : Lit × DataW H → Nat
  | (.string bytes, d) => bytes.length + uptoBulk d + 1
  | (_, d) => uptoBulk d + 1
 end
def uptoSmall : (H : Type) → List (DataW H) → Bool := fun _ ds => decide (uptoBulkAll ds ≤ 1048576)
def OpenSpec.upto (s : _root_.Go.ChangeSpec) : _root_.Go.OpenSpec := { _root_.Go.OpenSpec.ofChange s with cond := some uptoSmall }

/-- 'laws.FnPatches', WHERE WHAT IT READS IS OF BULK AT MOST 1048576: true; the input reads as it did. -/
def fnPatchesUptoRow : OpenClaim := { program := "ytaajldodobclaaa", sum := "ec707dfb407172ef3fb582645be30c11fab2babef187d982f4116148f909347e", func := "loop.example/g00825/laws.FnPatches", spec := "fnPatches", unfollowed := true, recurses := true, apart := false, narrowed := true }
def FnPatchesUptoSaid : Prop := fnPatchesUptoRow.holds Try.pinned (OpenSpec.upto fnPatchesSpec)

/-- 'laws.FnTrimmed', WHERE WHAT IT READS IS OF BULK AT MOST 1048576: true; the input reads as it did. -/
def fnTrimmedUptoRow : OpenClaim := { program := "ytaajldodobclaaa", sum := "ec707dfb407172ef3fb582645be30c11fab2babef187d982f4116148f909347e", func := "loop.example/g00825/laws.FnTrimmed", spec := "fnTrimmed", apart := false, narrowed := true }
def FnTrimmedUptoSaid : Prop := fnTrimmedUptoRow.holds Try.pinned (OpenSpec.upto fnTrimmedSpec)

/-- 'laws.FnJoined', WHERE WHAT IT READS IS OF BULK AT MOST 1048576: true; the input reads as it did. -/
def fnJoinedUptoRow : OpenClaim := { program := "ytaajldodobclaaa", sum := "ec707dfb407172ef3fb582645be30c11fab2babef187d982f4116148f909347e", func := "loop.example/g00825/laws.FnJoined", spec := "fnJoined", apart := false, narrowed := true }
def FnJoinedUptoSaid : Prop := fnJoinedUptoRow.holds Try.pinned (OpenSpec.upto fnJoinedSpec)

/-- 'laws.FnExactGoodHunks', WHERE WHAT IT READS IS OF BULK AT MOST 1048576: true; the input reads as it did. -/
def fnExactGoodHunksUptoRow : OpenClaim := { program := "ytaajldodobclaaa", sum := "ec707dfb407172ef3fb582645be30c11fab2babef187d982f4116148f909347e", func := "loop.example/g00825/laws.FnExactGoodHunks", spec := "fnExactGoodHunks", apart := false, narrowed := true }
def FnExactGoodHunksUptoSaid : Prop := fnExactGoodHunksUptoRow.holds Try.pinned (OpenSpec.upto fnExactGoodHunksSpec)

/-- 'laws.FnExactPatch', WHERE WHAT IT READS IS OF BULK AT MOST 1048576: true; the input reads as it did. -/
def fnExactPatchUptoRow : OpenClaim := { program := "ytaajldodobclaaa", sum := "ec707dfb407172ef3fb582645be30c11fab2babef187d982f4116148f909347e", func := "loop.example/g00825/laws.FnExactPatch", spec := "fnExactPatch", apart := false, narrowed := true }
def FnExactPatchUptoSaid : Prop := fnExactPatchUptoRow.holds Try.pinned (OpenSpec.upto fnExactPatchSpec)

/-- 'laws.FnExactBackHunks', WHERE WHAT IT READS IS OF BULK AT MOST 1048576: true; the input reads as it did. -/
def fnExactBackHunksUptoRow : OpenClaim := { program := "ytaajldodobclaaa", sum := "ec707dfb407172ef3fb582645be30c11fab2babef187d982f4116148f909347e", func := "loop.example/g00825/laws.FnExactBackHunks", spec := "fnExactBackHunks", apart := false, narrowed := true }
def FnExactBackHunksUptoSaid : Prop := fnExactBackHunksUptoRow.holds Try.pinned (OpenSpec.upto fnExactBackHunksSpec)

/-- 'laws.FnExactTrimHunks', WHERE WHAT IT READS IS OF BULK AT MOST 1048576: true; the input reads as it did. -/
def fnExactTrimHunksUptoRow : OpenClaim := { program := "ytaajldodobclaaa", sum := "ec707dfb407172ef3fb582645be30c11fab2babef187d982f4116148f909347e", func := "loop.example/g00825/laws.FnExactTrimHunks", spec := "fnExactTrimHunks", apart := false, narrowed := true }
def FnExactTrimHunksUptoSaid : Prop := fnExactTrimHunksUptoRow.holds Try.pinned (OpenSpec.upto fnExactTrimHunksSpec)

/-- 'laws.FnExactJoinHunks', WHERE WHAT IT READS IS OF BULK AT MOST 1048576: true; the input reads as it did. -/
def fnExactJoinHunksUptoRow : OpenClaim := { program := "ytaajldodobclaaa", sum := "ec707dfb407172ef3fb582645be30c11fab2babef187d982f4116148f909347e", func := "loop.example/g00825/laws.FnExactJoinHunks", spec := "fnExactJoinHunks", apart := false, narrowed := true }
def FnExactJoinHunksUptoSaid : Prop := fnExactJoinHunksUptoRow.holds Try.pinned (OpenSpec.upto fnExactJoinHunksSpec)

/-- 'laws.FnExactSameHunks', WHERE WHAT IT READS IS OF BULK AT MOST 1048576: true; the input reads as it did. -/
def fnExactSameHunksUptoRow : OpenClaim := { program := "ytaajldodobclaaa", sum := "ec707dfb407172ef3fb582645be30c11fab2babef187d982f4116148f909347e", func := "loop.example/g00825/laws.FnExactSameHunks", spec := "fnExactSameHunks", unfollowed := true, recurses := true, apart := false, narrowed := true }
def FnExactSameHunksUptoSaid : Prop := fnExactSameHunksUptoRow.holds Try.pinned (OpenSpec.upto fnExactSameHunksSpec)

/-- 'laws.FnExactPlaceOf', WHERE WHAT IT READS IS OF BULK AT MOST 1048576: true; the input reads as it did. -/
def fnExactPlaceOfUptoRow : OpenClaim := { program := "ytaajldodobclaaa", sum := "ec707dfb407172ef3fb582645be30c11fab2babef187d982f4116148f909347e", func := "loop.example/g00825/laws.FnExactPlaceOf", spec := "fnExactPlaceOf", apart := false, narrowed := true }
def FnExactPlaceOfUptoSaid : Prop := fnExactPlaceOfUptoRow.holds Try.pinned (OpenSpec.upto fnExactPlaceOfSpec)

end Rows
end Go.Proofs.Ytaajldodobclaaa
