/-
  From what a row lists of the program's own table of orders' words to what a walk takes of it.
-/
import Derived.Test.YtnnaigoomipklaaGreatDoorOgNDoor
import Derived.Test.YtnnaigoomipklaaGreatDoorOgOTextI
import Derived.OpenShut
import Derived.ChangeArms
set_option linter.unusedSimpArgs false
set_option linter.unusedVariables false
namespace Go.Proofs.YtnnaigoomipklaaGreatDoor
open Go.RowKit Go.Lib M

theorem gOw : Tryz.prog.globalNamed "loop.example/g00825/impl.orderWords" = some 0 := by kernel_rfl

set_option maxRecDepth 100000 in
theorem ow_of_head {W : World} {r : List (String × DataW Unit)} (h : laidMet Tryz.prog (("loop.example/g00825/impl.orderWords", Rows.laid_loop_example_g00825_impl_orderWords) :: r) W) : Ow W := by
  obtain ⟨ps, ⟨g', t', cs, fuel, p, q, hg', ht', hvar, hd, _, _⟩, _⟩ := h
  obtain rfl := Option.some.inj (gOw.symm.trans hg')
  obtain rfl := Option.some.inj ((show (Tryz.prog.globals[0]?).map (·.type) = some 151 by kernel_rfl).symm.trans ht')
  obtain ⟨xs, m, rfl, hx, hl, hn, hi⟩ := DataW.trod_array Tryz.underlying151 hd
  have hc : Tryz.prog.cellsOf 9 = 1 := by kernel_rfl
  have hx1 : xs.map (·.1) = [.lit (.string []), .lit (.string [97]), .lit (.string [105]), .lit (.string [99]), .lit (.string [100]), .lit (.string [115, 47, 46, 47, 47])] := by
    have := congrArg Prod.fst hx
    unfold Rows.laid_loop_example_g00825_impl_orderWords at this
    injection this with this
    exact this.symm
  have one : ∀ (i : Nat) (l : List UInt8), i < 6 → (xs.map (·.1))[i]? = some (.lit (.string l)) → W.cell? ⟨0, i, none⟩ = some (.string ⟨l.toArray⟩) := by
    intro i l hi4 hxi
    have h1 := hi i hi4
    rw [hc, Nat.mul_one] at h1
    have hy : xs[i]? = some (xs[i]'(by omega)) := List.getElem?_eq_getElem (by omega)
    rw [hy] at h1
    obtain ⟨s, e1, e2, _⟩ := DataW.trod_string Tryz.underlying9 h1
    rw [List.getElem?_map, hy, Option.map_some, e2] at hxi
    have hs : s = ⟨l.toArray⟩ := by
      injection hxi with hxi
      injection hxi with hxi
      injection hxi with hxi
      rw [← hxi]
    have h2 : cs.toList[i]? = some (.string s) := by
      have := congrArg (·[0]?) e1
      simpa [List.getElem?_take, List.getElem?_drop] using this
    have h3 := World.var?_cell gOw hvar i
    rw [h3, ← hs]
    simpa using h2
  intro k hk
  have hk' : k = 0 ∨ k = 1 ∨ k = 2 ∨ k = 3 ∨ k = 4 ∨ k = 5 := by omega
  rcases hk' with rfl | rfl | rfl | rfl | rfl | rfl
  · exact one 0 [] (by omega) (by rw [hx1]; rfl)
  · exact one 1 [97] (by omega) (by rw [hx1]; rfl)
  · exact one 2 [105] (by omega) (by rw [hx1]; rfl)
  · exact one 3 [99] (by omega) (by rw [hx1]; rfl)
  · exact one 4 [100] (by omega) (by rw [hx1]; rfl)
  · exact one 5 [115, 47, 46, 47, 47] (by omega) (by rw [hx1]; rfl)

end Go.Proofs.YtnnaigoomipklaaGreatDoor
