/-
  From what the row of ReadUnified lists of variables to what its walk takes of them.
-/
import Derived.Test.YtkamenidgkjodaaGreatDoorQcUDoor
import Derived.Test.YtkamenidgkjodaaGreatDoorQcURdr
set_option linter.unusedSimpArgs false
set_option linter.unusedVariables false
namespace Go.Proofs.YtkamenidgkjodaaGreatDoor
open Go.RowKit Go.Lib M

/-- The list of three tables, the two faults and the signs. -/
abbrev laidS6 : List (String × DataW Unit) := laid5 ++ [("loop.example/g00825/impl.rowSigns", Rows.laid_loop_example_g00825_impl_rowSigns)]
set_option maxRecDepth 100000 in
theorem varsS_of_6 {W : World} (h : laidMet Tryz.prog laidS6 W) (hsh : W.ShapedOpen Tryz.prog) : VarsS W :=
  ⟨⟨tab_of_head h.tail.tail, syn_of_head h.tail.tail.tail.tail, rng_of_head h.tail.tail.tail, Tryz.laysM145.s1_3 W hsh⟩, sgn_of_head h.tail.tail.tail.tail.tail⟩
set_option maxRecDepth 100000 in
theorem plainS6 (W : World) : laidMetH Tryz.prog laidS6 W = laidMet Tryz.prog laidS6 W := MakeChecks.laidMetH_plain _ _ _ (by kernel_rfl)

end Go.Proofs.YtkamenidgkjodaaGreatDoor
