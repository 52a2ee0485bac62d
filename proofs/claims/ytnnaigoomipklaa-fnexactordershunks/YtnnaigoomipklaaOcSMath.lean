/-
  Plain facts on steps and their text, the plain way: no Go, no program.
  Plain facts on lists of steps that the laws' own functions need: no Go, no program.
  Plain facts on steps made of hunks and hunks made of steps: no Go, no program.
  Plain facts: the steps of hunks that Patch takes are good, and lead to the hunks again: no Go, no program.
-/
import Derived.Test.YtnnaigoomipklaaOcBase
import Derived.Lib.AtoiAll
import Derived.Lib.ItoaNum
import Derived.Lib.IndexMore
import Derived.Test.YtnnaigoomipklaaOcHBases
set_option linter.unusedSimpArgs false
set_option linter.unusedVariables false
namespace Go.Proofs.Ytnnaigoomipklaa.M
open Go

/-- A step: the numbers and the lines of both sides. -/
structure Sp where
  fr : Int
  to_ : Int
  old : List ByteArray
  at_ : Int
  en : Int
  new : List ByteArray

/-! Lines cut. -/

/-! Shown lines taken. -/

/-! Heads read. -/

/-! Steps read. -/

/-! Every line of a step's text ends in a byte 10 and has no other. -/

end Go.Proofs.Ytnnaigoomipklaa.M

namespace Go.Proofs.Ytnnaigoomipklaa.M
open Go

/-! Hunks made of steps. -/

end Go.Proofs.Ytnnaigoomipklaa.M

