/-
  A drawn text that is like another one, and what is drawn of it.
-/
import Derived.Test.YtnnaigoomipklaaGreatDoorOhGood
import Derived.Test.YtnnaigoomipklaaGreatDoorOhMemT
import Derived.Test.YtnnaigoomipklaaGreatDoorOhWhole
import Derived.Test.YtnnaigoomipklaaGreatDoorOhDraw
import Derived.Deep.RegionLaw
set_option linter.unusedSimpArgs false
set_option linter.unusedVariables false
namespace Go.Proofs.YtnnaigoomipklaaGreatDoor
open Go.RowKit M

/-- Texts that are not empty, and of at most S bytes. -/
def Fine (S : Nat) (l : List ByteArray) : Prop := ∀ s ∈ l, 1 ≤ s.size ∧ s.size ≤ S

end Go.Proofs.YtnnaigoomipklaaGreatDoor
