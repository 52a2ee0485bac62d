/-
  TrimHunks, the program's and the model's.
-/
import Derived.Test.YtnnaigoomipklaaOcHBack
import Derived.Test.YtnnaigoomipklaaOcHBases
import Derived.Test.YtnnaigoomipklaaOcGood
import Derived.Test.YtnnaigoomipklaaOcMemT
set_option linter.unusedSimpArgs false
set_option linter.unusedVariables false
namespace Go.Proofs.Ytnnaigoomipklaa
open Go.RowKit M

theorem set3_cells {w : World} {g : Nat} {x y z u0 u1 u2 : Value} (z0 : w.cell? ⟨g, 0, none⟩ = some u0) (z1 : w.cell? ⟨g, 1, none⟩ = some u1) (z2 : w.cell? ⟨g, 2, none⟩ = some u2) :
    (((w.setCell ⟨g, 0, none⟩ x).setCell ⟨g, 1, none⟩ y).setCell ⟨g, 2, none⟩ z).cell? ⟨g, 0, none⟩ = some x ∧ (((w.setCell ⟨g, 0, none⟩ x).setCell ⟨g, 1, none⟩ y).setCell ⟨g, 2, none⟩ z).cell? ⟨g, 1, none⟩ = some y ∧ (((w.setCell ⟨g, 0, none⟩ x).setCell ⟨g, 1, none⟩ y).setCell ⟨g, 2, none⟩ z).cell? ⟨g, 2, none⟩ = some z := by
  refine ⟨?_, ?_, ?_⟩
  · rw [World.cell?_setCell_other _ _ _ _ (by simp), World.cell?_setCell_other _ _ _ _ (by simp)]; exact World.cell?_setCell_same _ _ _ z0
  · rw [World.cell?_setCell_other _ _ _ _ (by simp)]; exact World.cell?_setCell_same _ _ _ ((World.cell?_setCell_other _ _ _ _ (by simp)).trans z1)
  · exact World.cell?_setCell_same _ _ _ ((World.cell?_setCell_other _ _ _ _ (by simp)).trans ((World.cell?_setCell_other _ _ _ _ (by simp)).trans z2))
theorem cell_off {w : World} {p a : Addr} {u v : Value} (h : w.cell? a = some u) (hn : a.block ≠ p.block) : (w.setCell p v).cell? a = some u :=
  (World.cell?_of_block (Below.heap_setCell w p v a.block hn)).trans h

end Go.Proofs.Ytnnaigoomipklaa
