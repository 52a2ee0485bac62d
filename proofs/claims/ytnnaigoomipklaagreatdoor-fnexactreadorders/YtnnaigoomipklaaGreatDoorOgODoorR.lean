/-
  From what a row lists of variables to what a walk that reads orders takes of them.
-/
import Derived.Test.YtnnaigoomipklaaGreatDoorOgODoor
import Derived.Test.YtnnaigoomipklaaGreatDoorOgOReadI
set_option linter.unusedSimpArgs false
set_option linter.unusedVariables false
namespace Go.Proofs.YtnnaigoomipklaaGreatDoor
open Go.RowKit Go.Lib M

/-- The list of three tables, the two faults and the words. -/
abbrev laidO6 : List (String × DataW Unit) := laid5 ++ [("loop.example/g00825/impl.orderWords", Rows.laid_loop_example_g00825_impl_orderWords)]
set_option maxRecDepth 100000 in
theorem varsR_of_6 {W : World} (h : laidMet Tryz.prog laidO6 W) (hsh : W.ShapedOpen Tryz.prog) : VarsR W :=
  ⟨⟨tab_of_head h.tail.tail, syn_of_head h.tail.tail.tail.tail, rng_of_head h.tail.tail.tail, Tryz.laysM145.s1_3 W hsh⟩, ow_of_head h.tail.tail.tail.tail.tail⟩
set_option maxRecDepth 100000 in
theorem plainO6 (W : World) : laidMetH Tryz.prog laidO6 W = laidMet Tryz.prog laidO6 W := MakeChecks.laidMetH_plain _ _ _ (by kernel_rfl)

end Go.Proofs.YtnnaigoomipklaaGreatDoor
