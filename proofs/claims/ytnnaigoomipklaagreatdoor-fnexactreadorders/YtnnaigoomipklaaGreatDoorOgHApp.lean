/-
  append of one hunk to hunks of the call's own; copies of lines.
-/
import Derived.Test.YtnnaigoomipklaaGreatDoorOgHMems
import Derived.Test.YtnnaigoomipklaaGreatDoorOgGood
import Derived.Test.YtnnaigoomipklaaGreatDoorOgMemT
set_option linter.unusedSimpArgs false
set_option linter.unusedVariables false
namespace Go.Proofs.YtnnaigoomipklaaGreatDoor
open Go.RowKit Go.ChangeShapes Go.WideShapes M

theorem list_snoc_get {α : Type} {l : List α} {a b : α} {k : Nat} (h : (l ++ [a])[k]? = some b) : (k < l.length ∧ l[k]? = some b) ∨ (k = l.length ∧ b = a) := by
  rw [List.getElem?_append] at h
  split at h
  · exact .inl ⟨by assumption, h⟩
  · have hk : k - l.length = 0 := by
      rcases Nat.eq_zero_or_pos (k - l.length) with h0 | h0
      · exact h0
      · rw [List.getElem?_eq_none (by simp; omega)] at h; cases h
    rw [hk] at h
    injection h with h
    exact .inr ⟨by omega, h.symm⟩

end Go.Proofs.YtnnaigoomipklaaGreatDoor
