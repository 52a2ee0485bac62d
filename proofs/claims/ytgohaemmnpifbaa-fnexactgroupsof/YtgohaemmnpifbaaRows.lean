/-
  No cell of these rows narrows 'for every input' (looked for: loops, veiled, ifaces, maps, wideKeys, modest, calm, conditions, laid).
  DERIVED. THE GIVEN ROWS OF THIS SEAT. 5 by the template 'for every input the law returns true; each argument reads behind the call as it read before'; 0 by the template 'total and deterministic' (their statements: YtgohaemmnpifbaaTotals.lean).
  GIVEN WITH THE SEED: the statements are not yours to turn. If you find one false, say at which input.
  Laid BY PROGRAM, IN A SANDBOX (cutbox-rows.mjs): the forced cells as the released guide's own fill.sh prints them over the translation b195db16ca24f2b5… (all of the seat's roots in one cut). By AI agents, Wed Nov 11 2026. No macro, syntax, notation, axiom, sorry.
-/
import Derived.Test.YtgohaemmnpifbaaChecked
import GoSem.Claim
import GoSem.ClaimJoined
import GoSem.ClaimMapViews
import Derived.JoinedTies
import Derived.KernelRfl
namespace Go.Proofs.Ytgohaemmnpifbaa
/- THE CELL 'sum', in the pinned program and in every row, IS THE sha256 OF THE DUMP (.gsa) THAT YtgohaemmnpifbaaProg.lean LOADS. Nothing in Lean hashes anything: it is a label: what it is worth is what the hold of that sum in a sandbox is worth. -/
noncomputable def Try.pinned : Pinned := { name := "ytgohaemmnpifbaa", sum := "b195db16ca24f2b556937b140df6fcd1a665471caff9de168c07a2b1e51f5818", checked := Try.checked }
namespace Rows
def none {H : Type} : Left H := { results := [], args := [] }

/-- 'laws.FnExactGroupsOf': WHATEVER THE INPUT: true; the input reads as it did. -/
def fnExactGroupsOfSpec : ChangeSpec := { name := "fnExactGroupsOf", fn := fun _ => fun
  | [d1, d2, d3] => { results := [.lit (.bool true)], args := [d1, d2, d3] }
  | _ => none }
def fnExactGroupsOfRow : OpenClaim := { program := "ytgohaemmnpifbaa", sum := "b195db16ca24f2b556937b140df6fcd1a665471caff9de168c07a2b1e51f5818", func := "loop.example/g00825/laws.FnExactGroupsOf", spec := "fnExactGroupsOf", apart := false }
def FnExactGroupsOfSaid : Prop := fnExactGroupsOfRow.holds Try.pinned (OpenSpec.ofChange fnExactGroupsOfSpec)

/-- ITS FALSE NEIGHBOUR: 'it returns false'. Refute it at one input. -/
def fnExactGroupsOfWrong : ChangeSpec := { name := "fnExactGroupsOf", fn := fun _ => fun
  | [d1, d2, d3] => { results := [.lit (.bool false)], args := [d1, d2, d3] }
  | _ => none }
def FnExactGroupsOfWrongFalsely : Prop := fnExactGroupsOfRow.holds Try.pinned (OpenSpec.ofChange fnExactGroupsOfWrong)

/-- 'laws.FnExactGoodGroups': WHATEVER THE INPUT: true; the input reads as it did. -/
def fnExactGoodGroupsSpec : ChangeSpec := { name := "fnExactGoodGroups", fn := fun _ => fun
  | [d] => { results := [.lit (.bool true)], args := [d] }
  | _ => none }
def fnExactGoodGroupsRow : OpenClaim := { program := "ytgohaemmnpifbaa", sum := "b195db16ca24f2b556937b140df6fcd1a665471caff9de168c07a2b1e51f5818", func := "loop.example/g00825/laws.FnExactGoodGroups", spec := "fnExactGoodGroups", unfollowed := true, recurses := true, apart := false }
def FnExactGoodGroupsSaid : Prop := fnExactGoodGroupsRow.holds Try.pinned (OpenSpec.ofChange fnExactGoodGroupsSpec)

/-- ITS FALSE NEIGHBOUR: 'it returns false'. Refute it at one input. -/
def fnExactGoodGroupsWrong : ChangeSpec := { name := "fnExactGoodGroups", fn := fun _ => fun
  | [d] => { results := [.lit (.bool false)], args := [d] }
  | _ => none }
def FnExactGoodGroupsWrongFalsely : Prop := fnExactGoodGroupsRow.holds Try.pinned (OpenSpec.ofChange fnExactGoodGroupsWrong)

/-- 'laws.FnExactOldOf': WHATEVER THE INPUT: true; the input reads as it did. -/
def fnExactOldOfSpec : ChangeSpec := { name := "fnExactOldOf", fn := fun _ => fun
  | [d] => { results := [.lit (.bool true)], args := [d] }
  | _ => none }
def fnExactOldOfRow : OpenClaim := { program := "ytgohaemmnpifbaa", sum := "b195db16ca24f2b556937b140df6fcd1a665471caff9de168c07a2b1e51f5818", func := "loop.example/g00825/laws.FnExactOldOf", spec := "fnExactOldOf", unfollowed := true, recurses := true, apart := false }
def FnExactOldOfSaid : Prop := fnExactOldOfRow.holds Try.pinned (OpenSpec.ofChange fnExactOldOfSpec)

/-- ITS FALSE NEIGHBOUR: 'it returns false'. Refute it at one input. -/
def fnExactOldOfWrong : ChangeSpec := { name := "fnExactOldOf", fn := fun _ => fun
  | [d] => { results := [.lit (.bool false)], args := [d] }
  | _ => none }
def FnExactOldOfWrongFalsely : Prop := fnExactOldOfRow.holds Try.pinned (OpenSpec.ofChange fnExactOldOfWrong)

/-- 'laws.FnExactNewOf': WHATEVER THE INPUT: true; the input reads as it did. -/
def fnExactNewOfSpec : ChangeSpec := { name := "fnExactNewOf", fn := fun _ => fun
  | [d] => { results := [.lit (.bool true)], args := [d] }
  | _ => none }
def fnExactNewOfRow : OpenClaim := { program := "ytgohaemmnpifbaa", sum := "b195db16ca24f2b556937b140df6fcd1a665471caff9de168c07a2b1e51f5818", func := "loop.example/g00825/laws.FnExactNewOf", spec := "fnExactNewOf", unfollowed := true, recurses := true, apart := false }
def FnExactNewOfSaid : Prop := fnExactNewOfRow.holds Try.pinned (OpenSpec.ofChange fnExactNewOfSpec)

/-- ITS FALSE NEIGHBOUR: 'it returns false'. Refute it at one input. -/
def fnExactNewOfWrong : ChangeSpec := { name := "fnExactNewOf", fn := fun _ => fun
  | [d] => { results := [.lit (.bool false)], args := [d] }
  | _ => none }
def FnExactNewOfWrongFalsely : Prop := fnExactNewOfRow.holds Try.pinned (OpenSpec.ofChange fnExactNewOfWrong)

/-- 'laws.FnExactWidthOf': WHATEVER THE INPUT: true; the input reads as it did. -/
def fnExactWidthOfSpec : ChangeSpec := { name := "fnExactWidthOf", fn := fun _ => fun
  | [d] => { results := [.lit (.bool true)], args := [d] }
  | _ => none }
def fnExactWidthOfRow : OpenClaim := { program := "ytgohaemmnpifbaa", sum := "b195db16ca24f2b556937b140df6fcd1a665471caff9de168c07a2b1e51f5818", func := "loop.example/g00825/laws.FnExactWidthOf", spec := "fnExactWidthOf", unfollowed := true, recurses := true, apart := false }
def FnExactWidthOfSaid : Prop := fnExactWidthOfRow.holds Try.pinned (OpenSpec.ofChange fnExactWidthOfSpec)

/-- ITS FALSE NEIGHBOUR: 'it returns false'. Refute it at one input. -/
def fnExactWidthOfWrong : ChangeSpec := { name := "fnExactWidthOf", fn := fun _ => fun
  | [d] => { results := [.lit (.bool false)], args := [d] }
  | _ => none }
def FnExactWidthOfWrongFalsely : Prop := fnExactWidthOfRow.holds Try.pinned (OpenSpec.ofChange fnExactWidthOfWrong)

/- THE SECOND FORM. 'bulk': how many values and letters a reading holds, each counted each time it is reached (what is shared counts as often as it is met; a slice's spare places count too). A statement '..UptoSaid' is the law's where the arguments, and the package variables that the reading takes, are together of bulk at most 1048576: NARROWER than '..Said'. Prove '..Said' where nothing that the law and all that it calls make is longer than what came in: it says more and counts as full. Else prove '..UptoSaid'. A law counts once. -/
mutual
def uptoBulk {H : Type} : DataW H → Nat
  | .lit (.string bytes) => bytes.length + 1
  | .lit _ => 1
  | .nil => 1
  | .ptr d => uptoBulk d + 1
  | .slice elems spare => uptoBulkAll elems + uptoBulkAll spare + 1
  | .agg parts => uptoBulkAll parts + 1
  | .iface _ d => uptoBulk d + 1
  | .map entries => uptoBulkEntries entries + 1
  | .held _ => 1
def uptoBulkAll {H : Type} : List (DataW H) → Nat
  | [] => 0
  | d :: r => uptoBulk d + uptoBulkAll r
def uptoBulkEntries {H : Type} : List (Lit × DataW H) → Nat
  | [] => 0
  | x :: r => uptoBulkEntry x + uptoBulkEntries r
def uptoBulkEntry {H : Type} : Lit × DataW H → Nat
  | (.string bytes, d) => bytes.length + uptoBulk d + 1
  | (_, d) => uptoBulk d + 1
 end
def uptoSmall : (H : Type) → List (DataW H) → Bool := fun _ ds => decide (uptoBulkAll ds ≤ 1048576)
def OpenSpec.upto (s : _root_.Go.ChangeSpec) : _root_.Go.OpenSpec := { _root_.Go.OpenSpec.ofChange s with cond := some uptoSmall }

/-- 'laws.FnExactGroupsOf', WHERE WHAT IT READS IS OF BULK AT MOST 1048576: true; the input reads as it did. -/
def fnExactGroupsOfUptoRow : OpenClaim := { program := "ytgohaemmnpifbaa", sum := "b195db16ca24f2b556937b140df6fcd1a665471caff9de168c07a2b1e51f5818", func := "loop.example/g00825/laws.FnExactGroupsOf", spec := "fnExactGroupsOf", apart := false, narrowed := true }
def FnExactGroupsOfUptoSaid : Prop := fnExactGroupsOfUptoRow.holds Try.pinned (OpenSpec.upto fnExactGroupsOfSpec)

/-- 'laws.FnExactGoodGroups', WHERE WHAT IT READS IS OF BULK AT MOST 1048576: true; the input reads as it did. -/
def fnExactGoodGroupsUptoRow : OpenClaim := { program := "ytgohaemmnpifbaa", sum := "b195db16ca24f2b556937b140df6fcd1a665471caff9de168c07a2b1e51f5818", func := "loop.example/g00825/laws.FnExactGoodGroups", spec := "fnExactGoodGroups", unfollowed := true, recurses := true, apart := false, narrowed := true }
def FnExactGoodGroupsUptoSaid : Prop := fnExactGoodGroupsUptoRow.holds Try.pinned (OpenSpec.upto fnExactGoodGroupsSpec)

/-- 'laws.FnExactOldOf', WHERE WHAT IT READS IS OF BULK AT MOST 1048576: true; the input reads as it did. -/
def fnExactOldOfUptoRow : OpenClaim := { program := "ytgohaemmnpifbaa", sum := "b195db16ca24f2b556937b140df6fcd1a665471caff9de168c07a2b1e51f5818", func := "loop.example/g00825/laws.FnExactOldOf", spec := "fnExactOldOf", unfollowed := true, recurses := true, apart := false, narrowed := true }
def FnExactOldOfUptoSaid : Prop := fnExactOldOfUptoRow.holds Try.pinned (OpenSpec.upto fnExactOldOfSpec)

/-- 'laws.FnExactNewOf', WHERE WHAT IT READS IS OF BULK AT MOST 1048576: true; the input reads as it did. -/
def fnExactNewOfUptoRow : OpenClaim := { program := "ytgohaemmnpifbaa", sum := "b195db16ca24f2b556937b140df6fcd1a665471caff9de168c07a2b1e51f5818", func := "loop.example/g00825/laws.FnExactNewOf", spec := "fnExactNewOf", unfollowed := true, recurses := true, apart := false, narrowed := true }
def FnExactNewOfUptoSaid : Prop := fnExactNewOfUptoRow.holds Try.pinned (OpenSpec.upto fnExactNewOfSpec)

/-- 'laws.FnExactWidthOf', WHERE WHAT IT READS IS OF BULK AT MOST 1048576: true; the input reads as it did. -/
def fnExactWidthOfUptoRow : OpenClaim := { program := "ytgohaemmnpifbaa", sum := "b195db16ca24f2b556937b140df6fcd1a665471caff9de168c07a2b1e51f5818", func := "loop.example/g00825/laws.FnExactWidthOf", spec := "fnExactWidthOf", unfollowed := true, recurses := true, apart := false, narrowed := true }
def FnExactWidthOfUptoSaid : Prop := fnExactWidthOfUptoRow.holds Try.pinned (OpenSpec.upto fnExactWidthOfSpec)

end Rows
end Go.Proofs.Ytgohaemmnpifbaa
