/-
  From a row that lists the type of 'error' too to what a walk takes of it.
-/
import Derived.Test.YtaliljbijnbiaaaDoorNDoor
import Derived.Test.YtaliljbijnbiaaaDoorNEnd
set_option linter.unusedSimpArgs false
set_option linter.unusedVariables false
namespace Go.Proofs.YtaliljbijnbiaaaDoor
open Go.RowKit Go.Lib M

abbrev laid6 : List (String × DataW Unit) := laid3 ++ [("errors.errorType", Rows.laid_errors_errorType), ("strconv.ErrRange", Rows.laid_strconv_ErrRange), ("strconv.ErrSyntax", Rows.laid_strconv_ErrSyntax)]

theorem gEt : Tryd.prog.globalNamed "errors.errorType" = some 0 := by kernel_rfl
theorem etRow : (Tryd.prog.cutTypes.find? (·.1 == "internal/reflectlite.rtype")).map (·.2) = some 70 := by kernel_rfl
theorem etOne : ((List.range 148).filter fun t => Tryd.prog.rowNamed t [101, 114, 114, 111, 114]) = [32] := by kernel_rfl
theorem etSize : Tryd.prog.types.size = 148 := by kernel_rfl
theorem etHandle : typeHandle Tryd.prog 32 = .pointer (some ⟨7, 32, none⟩) := by kernel_rfl

theorem errT_of {W : World} (h : handlesMet Tryd.prog [("errors.errorType", Rows.laid_errors_errorType)] W) : ErrT W := by
  obtain ⟨name, u, ty, e1, e2, e3, e4, e5⟩ := h _ (List.mem_singleton.2 rfl)
  have en : name = [101, 114, 114, 111, 114] := (Option.some.inj e1).symm
  subst en
  obtain rfl := Option.some.inj (etRow.symm.trans e2)
  have hm : ty ∈ (List.range 148).filter fun t => Tryd.prog.rowNamed t [101, 114, 114, 111, 114] := List.mem_filter.2 ⟨List.mem_range.2 (by rw [← etSize]; exact e3), e4⟩
  rw [etOne] at hm
  obtain rfl := List.mem_singleton.1 hm
  rw [etHandle] at e5
  have := World.var?_cell gEt e5 0
  unfold ErrT
  simpa using this

theorem vars_of_6 {W : World} (h : laidMetH Tryd.prog laid6 W) (hsh : W.ShapedOpen Tryd.prog) : VarsE W := by
  have h' : laidMet Tryd.prog laid5 W ∧ handlesMet Tryd.prog [("errors.errorType", Rows.laid_errors_errorType)] W := h
  exact ⟨vars_of_5 h'.1 hsh, errT_of h'.2⟩

end Go.Proofs.YtaliljbijnbiaaaDoor
