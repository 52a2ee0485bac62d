/-
  From a row that lists the type of 'error' too to what a walk takes of it.
-/
import Derived.Test.YtaliljbijnbiaaaGreatDoorNDoor
import Derived.Test.YtaliljbijnbiaaaGreatDoorNEnd
set_option linter.unusedSimpArgs false
set_option linter.unusedVariables false
namespace Go.Proofs.YtaliljbijnbiaaaGreatDoor
open Go.RowKit Go.Lib M

abbrev laid6 : List (String × DataW Unit) := laid3 ++ [("errors.errorType", Rows.laid_errors_errorType), ("strconv.ErrRange", Rows.laid_strconv_ErrRange), ("strconv.ErrSyntax", Rows.laid_strconv_ErrSyntax)]

theorem gEt : Tryz.prog.globalNamed "errors.errorType" = some 0 := by kernel_rfl
theorem etRow : (Tryz.prog.cutTypes.find? (·.1 == "internal/reflectlite.rtype")).map (·.2) = some 83 := by kernel_rfl
theorem etOne : ((List.range 159).filter fun t => Tryz.prog.rowNamed t [101, 114, 114, 111, 114]) = [39] := by kernel_rfl
theorem etSize : Tryz.prog.types.size = 159 := by kernel_rfl
theorem etHandle : typeHandle Tryz.prog 39 = .pointer (some ⟨7, 39, none⟩) := by kernel_rfl

theorem errT_of {W : World} (h : handlesMet Tryz.prog [("errors.errorType", Rows.laid_errors_errorType)] W) : ErrT W := by
  obtain ⟨name, u, ty, e1, e2, e3, e4, e5⟩ := h _ (List.mem_singleton.2 rfl)
  have en : name = [101, 114, 114, 111, 114] := (Option.some.inj e1).symm
  subst en
  obtain rfl := Option.some.inj (etRow.symm.trans e2)
  have hm : ty ∈ (List.range 159).filter fun t => Tryz.prog.rowNamed t [101, 114, 114, 111, 114] := List.mem_filter.2 ⟨List.mem_range.2 (by rw [← etSize]; exact e3), e4⟩
  rw [etOne] at hm
  obtain rfl := List.mem_singleton.1 hm
  rw [etHandle] at e5
  have := World.var?_cell gEt e5 0
  unfold ErrT
  simpa using this

theorem vars_of_6 {W : World} (h : laidMetH Tryz.prog laid6 W) (hsh : W.ShapedOpen Tryz.prog) : VarsE W := by
  have h' : laidMet Tryz.prog laid5 W ∧ handlesMet Tryz.prog [("errors.errorType", Rows.laid_errors_errorType)] W := h
  exact ⟨vars_of_5 h'.1 hsh, errT_of h'.2⟩

end Go.Proofs.YtaliljbijnbiaaaGreatDoor
