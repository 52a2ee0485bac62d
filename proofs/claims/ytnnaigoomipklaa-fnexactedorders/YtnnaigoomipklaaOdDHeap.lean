/-
  Plain facts on a heap in a list: no Go, no program.
-/
import Derived.Test.YtnnaigoomipklaaOdHBases
set_option linter.unusedSimpArgs false
set_option linter.unusedVariables false
namespace Go.Proofs.Ytnnaigoomipklaa.M

/-- A pair of places, and how many lines both share behind. -/
structure Pr where
  f : Nat
  s : Nat
  b : Nat
deriving DecidableEq

end Go.Proofs.Ytnnaigoomipklaa.M
