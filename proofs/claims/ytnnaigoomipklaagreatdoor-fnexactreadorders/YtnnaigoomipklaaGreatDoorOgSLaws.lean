/-
  The laws' own small functions on steps: counted, copied, compared.
  The laws' own small functions on steps: compared, copied, marked.
  The laws' own small functions on steps: copied, marked.
  The laws' own small functions on lists of steps: copied, marked.
  The laws' own small functions on lists of steps: marked, held.
-/
import Derived.Test.YtnnaigoomipklaaGreatDoorOgSMath
import Derived.Test.YtnnaigoomipklaaGreatDoorOgURows
import Derived.Test.YtnnaigoomipklaaGreatDoorOgHMems
set_option linter.unusedSimpArgs false
set_option linter.unusedVariables false
namespace Go.Proofs.YtnnaigoomipklaaGreatDoor
open Go.RowKit Go.ChangeShapes Go.WideShapes M

theorem heap_set_same {w : World} {k j : Nat} {c : Array Value} {t : TypeId} {u : Value} (h : w.heap[k]? = some (.cells c t (0, 0))) : (w.setCell ⟨k, j, none⟩ u).heap[k]? = some (.cells (c.setIfInBounds j u) t (0, 0)) := by
  simp [World.setCell, Array.getElem?_modify, h]

end Go.Proofs.YtnnaigoomipklaaGreatDoor

