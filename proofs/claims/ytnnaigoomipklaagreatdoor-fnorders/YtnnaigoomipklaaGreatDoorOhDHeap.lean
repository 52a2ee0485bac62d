/-
  Plain facts on a heap in a list: no Go, no program.
-/
import Derived.Test.YtnnaigoomipklaaGreatDoorOhHBases
set_option linter.unusedSimpArgs false
set_option linter.unusedVariables false
namespace Go.Proofs.YtnnaigoomipklaaGreatDoor.M

/-- A pair of places, and how many lines both share behind. -/
structure Pr where
  f : Nat
  s : Nat
  b : Nat
deriving DecidableEq
def pr0 : Pr := ⟨0, 0, 0⟩
def at_ (L : List Pr) (k : Nat) : Pr := L.getD k pr0

end Go.Proofs.YtnnaigoomipklaaGreatDoor.M
