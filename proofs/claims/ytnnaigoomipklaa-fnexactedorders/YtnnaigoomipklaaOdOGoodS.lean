/-
  Good orders, the model's.
-/
import Derived.Test.YtnnaigoomipklaaOdOLaws
import Derived.Test.YtnnaigoomipklaaOdOMath
import Derived.Test.YtnnaigoomipklaaOdGood
set_option linter.unusedSimpArgs false
set_option linter.unusedVariables false
namespace Go.Proofs.Ytnnaigoomipklaa
open Go.RowKit Go.ChangeShapes Go.WideShapes M

theorem dot_bytes {t : ByteArray} : (t.toList == [46, 10]) = decide (t = dotA) := by
  have e : t.toList = t.data.toList := ByteArray.toList_eq t
  rw [e, Bool.eq_iff_iff]
  simp only [beq_iff_eq, decide_eq_true_eq]
  exact ⟨fun h => bytes_ext (by rw [h]; rfl), fun h => by rw [h]; rfl⟩

end Go.Proofs.Ytnnaigoomipklaa
