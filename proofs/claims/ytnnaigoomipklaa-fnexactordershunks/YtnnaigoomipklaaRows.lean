/-
  No cell of these rows narrows 'for every input' (looked for: loops, veiled, ifaces, maps, wideKeys, modest, calm, conditions, laid).
  DERIVED. THE GIVEN ROWS OF THIS SEAT. 4 by the template 'for every input the law returns true; each argument reads behind the call as it read before'; 0 by the template 'total and deterministic' (their statements: YtnnaigoomipklaaTotals.lean).
  GIVEN WITH THE SEED: the statements are not yours to turn. If you find one false, say at which input.
  Laid BY PROGRAM, IN A SANDBOX (cutbox-rows.mjs): the forced cells as the released guide's own fill.sh prints them over the translation b01cd439c8eb074d… (all of the seat's roots in one cut). By AI agents, Wed Nov 11 2026. No macro, syntax, notation, axiom, sorry.
-/
import Derived.Test.YtnnaigoomipklaaChecked
import GoSem.Claim
import GoSem.ClaimJoined
import GoSem.ClaimMapViews
import Derived.JoinedTies
import Derived.KernelRfl
namespace Go.Proofs.Ytnnaigoomipklaa
/- THE CELL 'sum', in the pinned program and in every row, IS THE sha256 OF THE DUMP (.gsa) THAT YtnnaigoomipklaaProg.lean LOADS. Nothing in Lean hashes anything: it is a label: what it is worth is what the hold of that sum in a sandbox is worth. -/
noncomputable def Try.pinned : Pinned := { name := "ytnnaigoomipklaa", sum := "b01cd439c8eb074db75bd620d484d90e24187d5e4d1f50729b136a62e6396b31", checked := Try.checked }
namespace Rows
def none {H : Type} : Left H := { results := [], args := [] }

/-- 'laws.FnExactEdOrders': WHATEVER THE INPUT: true; the input reads as it did. -/
def fnExactEdOrdersSpec : ChangeSpec := { name := "fnExactEdOrders", fn := fun _ => fun
  | [d1, d2] => { results := [.lit (.bool true)], args := [d1, d2] }
  | _ => none }
def fnExactEdOrdersRow : OpenClaim := { program := "ytnnaigoomipklaa", sum := "b01cd439c8eb074db75bd620d484d90e24187d5e4d1f50729b136a62e6396b31", func := "loop.example/g00825/laws.FnExactEdOrders", spec := "fnExactEdOrders", unfollowed := true, recurses := true, apart := false }
def FnExactEdOrdersSaid : Prop := fnExactEdOrdersRow.holds Try.pinned (OpenSpec.ofChange fnExactEdOrdersSpec)

/-- ITS FALSE NEIGHBOUR: 'it returns false'. Refute it at one input. -/
def fnExactEdOrdersWrong : ChangeSpec := { name := "fnExactEdOrders", fn := fun _ => fun
  | [d1, d2] => { results := [.lit (.bool false)], args := [d1, d2] }
  | _ => none }
def FnExactEdOrdersWrongFalsely : Prop := fnExactEdOrdersRow.holds Try.pinned (OpenSpec.ofChange fnExactEdOrdersWrong)

/-- 'laws.FnExactGoodOrders': WHATEVER THE INPUT: true; the input reads as it did. -/
def fnExactGoodOrdersSpec : ChangeSpec := { name := "fnExactGoodOrders", fn := fun _ => fun
  | [d] => { results := [.lit (.bool true)], args := [d] }
  | _ => none }
def fnExactGoodOrdersRow : OpenClaim := { program := "ytnnaigoomipklaa", sum := "b01cd439c8eb074db75bd620d484d90e24187d5e4d1f50729b136a62e6396b31", func := "loop.example/g00825/laws.FnExactGoodOrders", spec := "fnExactGoodOrders", unfollowed := true, recurses := true, apart := false }
def FnExactGoodOrdersSaid : Prop := fnExactGoodOrdersRow.holds Try.pinned (OpenSpec.ofChange fnExactGoodOrdersSpec)

/-- ITS FALSE NEIGHBOUR: 'it returns false'. Refute it at one input. -/
def fnExactGoodOrdersWrong : ChangeSpec := { name := "fnExactGoodOrders", fn := fun _ => fun
  | [d] => { results := [.lit (.bool false)], args := [d] }
  | _ => none }
def FnExactGoodOrdersWrongFalsely : Prop := fnExactGoodOrdersRow.holds Try.pinned (OpenSpec.ofChange fnExactGoodOrdersWrong)

/-- 'laws.FnExactRunOrders': WHATEVER THE INPUT: true; the input reads as it did. -/
def fnExactRunOrdersSpec : ChangeSpec := { name := "fnExactRunOrders", fn := fun _ => fun
  | [d1, d2] => { results := [.lit (.bool true)], args := [d1, d2] }
  | _ => none }
def fnExactRunOrdersRow : OpenClaim := { program := "ytnnaigoomipklaa", sum := "b01cd439c8eb074db75bd620d484d90e24187d5e4d1f50729b136a62e6396b31", func := "loop.example/g00825/laws.FnExactRunOrders", spec := "fnExactRunOrders", inPlace := ["slices.overlaps[string]"], unfollowed := true, recurses := true, apart := false }
def FnExactRunOrdersSaid : Prop := fnExactRunOrdersRow.holds Try.pinned (OpenSpec.ofChange fnExactRunOrdersSpec)

/-- ITS FALSE NEIGHBOUR: 'it returns false'. Refute it at one input. -/
def fnExactRunOrdersWrong : ChangeSpec := { name := "fnExactRunOrders", fn := fun _ => fun
  | [d1, d2] => { results := [.lit (.bool false)], args := [d1, d2] }
  | _ => none }
def FnExactRunOrdersWrongFalsely : Prop := fnExactRunOrdersRow.holds Try.pinned (OpenSpec.ofChange fnExactRunOrdersWrong)

/-- 'laws.FnExactOrdersHunks': WHATEVER THE INPUT: true; the input reads as it did. -/
def fnExactOrdersHunksSpec : ChangeSpec := { name := "fnExactOrdersHunks", fn := fun _ => fun
  | [d1, d2] => { results := [.lit (.bool true)], args := [d1, d2] }
  | _ => none }
def fnExactOrdersHunksRow : OpenClaim := { program := "ytnnaigoomipklaa", sum := "b01cd439c8eb074db75bd620d484d90e24187d5e4d1f50729b136a62e6396b31", func := "loop.example/g00825/laws.FnExactOrdersHunks", spec := "fnExactOrdersHunks", inPlace := ["slices.overlaps[string]"], unfollowed := true, recurses := true, apart := false }
def FnExactOrdersHunksSaid : Prop := fnExactOrdersHunksRow.holds Try.pinned (OpenSpec.ofChange fnExactOrdersHunksSpec)

/-- ITS FALSE NEIGHBOUR: 'it returns false'. Refute it at one input. -/
def fnExactOrdersHunksWrong : ChangeSpec := { name := "fnExactOrdersHunks", fn := fun _ => fun
  | [d1, d2] => { results := [.lit (.bool false)], args := [d1, d2] }
  | _ => none }
def FnExactOrdersHunksWrongFalsely : Prop := fnExactOrdersHunksRow.holds Try.pinned (OpenSpec.ofChange fnExactOrdersHunksWrong)

/- THE SECOND FORM. 'bulk': how many values and letters a reading holds, each counted each time it is reached (what is shared counts as often as it is met; a slice's spare places count too). A statement '..UptoSaid' is the law's where the arguments, and the package variables that the reading takes, are together of bulk at most 1048576: NARROWER than '..Said'. Prove '..Said' where nothing that the law and all that it calls make is longer than what came in: it says more and counts as full. Else prove '..UptoSaid'. A law counts once. -/
mutual
def uptoBulk {H : Type} : DataW H → Nat
  | .lit (.string bytes) => bytes.length + 1
  | .lit _ => 1
  | .nil => 1
  | .ptr d => uptoBulk d + 1
  | .slice elems spare => uptoBulkAll elems + uptoBulkAll spare + 1
  | .agg parts => uptoBulkAll parts + 1
  | .iface _ d => uptoBulk d + 1
  | .map entries => uptoBulkEntries entries + 1
  | .held _ => 1
def uptoBulkAll {H : Type} : List (DataW H) → Nat
  | [] => 0
  | d :: r => uptoBulk d + uptoBulkAll r
def uptoBulkEntries {H : Type} : List (Lit × DataW H) → Nat
  | [] => 0
  | x :: r => uptoBulkEntry x + uptoBulkEntries r
def uptoBulkEntry {H : Type} : Lit × DataW H → Nat
  | (.string bytes, d) => bytes.length + uptoBulk d + 1
  | (_, d) => uptoBulk d + 1
 end
def uptoSmall : (H : Type) → List (DataW H) → Bool := fun _ ds => decide (uptoBulkAll ds ≤ 1048576)
def OpenSpec.upto (s : _root_.Go.ChangeSpec) : _root_.Go.OpenSpec := { _root_.Go.OpenSpec.ofChange s with cond := some uptoSmall }

/-- 'laws.FnExactEdOrders', WHERE WHAT IT READS IS OF BULK AT MOST 1048576: true; the input reads as it did. -/
def fnExactEdOrdersUptoRow : OpenClaim := { program := "ytnnaigoomipklaa", sum := "b01cd439c8eb074db75bd620d484d90e24187d5e4d1f50729b136a62e6396b31", func := "loop.example/g00825/laws.FnExactEdOrders", spec := "fnExactEdOrders", unfollowed := true, recurses := true, apart := false, narrowed := true }
def FnExactEdOrdersUptoSaid : Prop := fnExactEdOrdersUptoRow.holds Try.pinned (OpenSpec.upto fnExactEdOrdersSpec)

/-- 'laws.FnExactGoodOrders', WHERE WHAT IT READS IS OF BULK AT MOST 1048576: true; the input reads as it did. -/
def fnExactGoodOrdersUptoRow : OpenClaim := { program := "ytnnaigoomipklaa", sum := "b01cd439c8eb074db75bd620d484d90e24187d5e4d1f50729b136a62e6396b31", func := "loop.example/g00825/laws.FnExactGoodOrders", spec := "fnExactGoodOrders", unfollowed := true, recurses := true, apart := false, narrowed := true }
def FnExactGoodOrdersUptoSaid : Prop := fnExactGoodOrdersUptoRow.holds Try.pinned (OpenSpec.upto fnExactGoodOrdersSpec)

/-- 'laws.FnExactRunOrders', WHERE WHAT IT READS IS OF BULK AT MOST 1048576: true; the input reads as it did. -/
def fnExactRunOrdersUptoRow : OpenClaim := { program := "ytnnaigoomipklaa", sum := "b01cd439c8eb074db75bd620d484d90e24187d5e4d1f50729b136a62e6396b31", func := "loop.example/g00825/laws.FnExactRunOrders", spec := "fnExactRunOrders", inPlace := ["slices.overlaps[string]"], unfollowed := true, recurses := true, apart := false, narrowed := true }
def FnExactRunOrdersUptoSaid : Prop := fnExactRunOrdersUptoRow.holds Try.pinned (OpenSpec.upto fnExactRunOrdersSpec)

/-- 'laws.FnExactOrdersHunks', WHERE WHAT IT READS IS OF BULK AT MOST 1048576: true; the input reads as it did. -/
def fnExactOrdersHunksUptoRow : OpenClaim := { program := "ytnnaigoomipklaa", sum := "b01cd439c8eb074db75bd620d484d90e24187d5e4d1f50729b136a62e6396b31", func := "loop.example/g00825/laws.FnExactOrdersHunks", spec := "fnExactOrdersHunks", inPlace := ["slices.overlaps[string]"], unfollowed := true, recurses := true, apart := false, narrowed := true }
def FnExactOrdersHunksUptoSaid : Prop := fnExactOrdersHunksUptoRow.holds Try.pinned (OpenSpec.upto fnExactOrdersHunksSpec)

end Rows
end Go.Proofs.Ytnnaigoomipklaa
