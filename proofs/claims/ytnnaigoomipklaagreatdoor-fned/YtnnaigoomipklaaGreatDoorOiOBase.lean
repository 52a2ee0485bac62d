/-
  Plain facts on orders that the laws' own functions need: no Go, no program.
-/
import Derived.Test.YtnnaigoomipklaaGreatDoorOiNBase
import Derived.Test.YtnnaigoomipklaaGreatDoorOiBase
import Derived.Test.YtnnaigoomipklaaGreatDoorOiHBases
set_option linter.unusedSimpArgs false
set_option linter.unusedVariables false
namespace Go.Proofs.YtnnaigoomipklaaGreatDoor.M
open Go

/-- An order: its kind, its numbers, its lines. -/
structure Od where
  kd : Int
  fr : Int
  to_ : Int
  new : List ByteArray

theorem Od.ext_ {x y : Od} (h1 : x.kd = y.kd) (h2 : x.fr = y.fr) (h3 : x.to_ = y.to_) (h4 : x.new = y.new) : x = y := by
  cases x; cases y; simp at h1 h2 h3 h4; simp [h1, h2, h3, h4]

end Go.Proofs.YtnnaigoomipklaaGreatDoor.M
