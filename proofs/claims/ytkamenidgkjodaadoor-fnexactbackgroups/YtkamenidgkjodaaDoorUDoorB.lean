/-
  From what a row lists of the program's own table of kinds to what a walk takes of it.
-/
import Derived.Test.YtkamenidgkjodaaDoorNDoor
import Derived.Test.YtkamenidgkjodaaDoorUTurn
import Derived.OpenShut
import Derived.ChangeArms
set_option linter.unusedSimpArgs false
set_option linter.unusedVariables false
namespace Go.Proofs.YtkamenidgkjodaaDoor
open Go.RowKit Go.Lib M

theorem gBk : Tryd.prog.globalNamed "loop.example/g00825/impl.backKinds" = some 1 := by kernel_rfl

set_option maxRecDepth 100000 in
theorem bk_of_head {W : World} {r : List (String × DataW Unit)} (h : laidMet Tryd.prog (("loop.example/g00825/impl.backKinds", Rows.laid_loop_example_g00825_impl_backKinds) :: r) W) : Bk W := by
  obtain ⟨ps, ⟨g', t', cs, fuel, p, q, hg', ht', hvar, hd, _, _⟩, _⟩ := h
  obtain rfl := Option.some.inj (gBk.symm.trans hg')
  obtain rfl := Option.some.inj ((show (Tryd.prog.globals[1]?).map (·.type) = some 101 by kernel_rfl).symm.trans ht')
  obtain ⟨xs, m, rfl, hx, hl, hn, hi⟩ := DataW.trod_array Tryd.underlying101 hd
  have hc : Tryd.prog.cellsOf 3 = 1 := by kernel_rfl
  have hx1 : xs.map (·.1) = [.lit (.int .i64 0), .lit (.int .i64 1), .lit (.int .i64 3), .lit (.int .i64 2)] := by
    have := congrArg Prod.fst hx
    unfold Rows.laid_loop_example_g00825_impl_backKinds at this
    injection this with this
    exact this.symm
  have one : ∀ (i : Nat) (z : Int), i < 4 → (xs.map (·.1))[i]? = some (.lit (.int .i64 z)) → W.cell? ⟨1, i, none⟩ = some (.int .i64 z) := by
    intro i z hi4 hxi
    have h1 := hi i hi4
    rw [hc, Nat.mul_one] at h1
    have hy : xs[i]? = some (xs[i]'(by omega)) := List.getElem?_eq_getElem (by omega)
    rw [hy] at h1
    obtain ⟨s, e1, e2, _⟩ := DataW.trod_int Tryd.underlying3 h1
    rw [List.getElem?_map, hy, Option.map_some, e2] at hxi
    have hs : s = z := by
      injection hxi with hxi
      injection hxi with hxi
      injection hxi with _ hxi
    have h2 : cs.toList[i]? = some (.int .i64 s) := by
      have := congrArg (·[0]?) e1
      simpa [List.getElem?_take, List.getElem?_drop] using this
    have h3 := World.var?_cell gBk hvar i
    rw [h3, ← hs]
    simpa using h2
  exact ⟨one 1 1 (by omega) (by rw [hx1]; rfl), one 2 3 (by omega) (by rw [hx1]; rfl), one 3 2 (by omega) (by rw [hx1]; rfl)⟩

/-- The list of the one table. -/
abbrev laidB1 : List (String × DataW Unit) := [("loop.example/g00825/impl.backKinds", Rows.laid_loop_example_g00825_impl_backKinds)]
theorem bk_of_1 {W : World} (h : laidMet Tryd.prog laidB1 W) : Bk W := bk_of_head h
theorem plainB1 (W : World) : laidMetH Tryd.prog laidB1 W = laidMet Tryd.prog laidB1 W := MakeChecks.laidMetH_plain _ _ _ (by kernel_rfl)

end Go.Proofs.YtkamenidgkjodaaDoor
