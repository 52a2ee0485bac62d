/-
  The laws' own small functions on lists of steps: marked, held.
-/
import Derived.Test.YtnimaadjmejmpaaDoorSLaw4
set_option linter.unusedSimpArgs false
set_option linter.unusedVariables false
namespace Go.Proofs.YtnimaadjmejmpaaDoor
open Go.RowKit Go.ChangeShapes Go.WideShapes M

theorem sides_small {l : List Sp} (h : l.length + totalP l ≤ 1048576) : ∀ x ∈ l, x.old.length ≤ 1048576 ∧ x.new.length ≤ 1048576 := by
  intro x hx
  have := totalP_mem hx
  unfold bulk at this
  omega

end Go.Proofs.YtnimaadjmejmpaaDoor
