/-
  Plain facts on hunks: no Go, no program.
  Plain facts on hunks done to lines: no Go, no program.
  Plain facts on hunks that lead back, and on hunks that are trimmed: no Go, no program.
  Plain facts on hunks that are trimmed: no Go, no program.
  Plain facts on the places of lines behind hunks: no Go, no program.
  Plain facts on hunks that are joined: no Go, no program.
  Plain facts: what is patched is patched back; how many lines there are. No Go, no program.
  Plain facts: trimmed hunks do the same. No Go, no program.
  Plain facts: hunks that are joined do at once what both do in turn. No Go, no program.
-/
import Derived.Test.YtnnaigoomipklaaGreatDoorOgBase
set_option linter.unusedSimpArgs false
set_option linter.unusedVariables false
namespace Go.Proofs.YtnnaigoomipklaaGreatDoor.M

/-- A hunk: the place, how many go, what comes. -/
structure Hk where
  at_ : Int
  gone : Int
  new : List ByteArray

theorem take_snoc {α : Type} {l : List α} {i : Nat} {x : α} (h : l[i]? = some x) : l.take (i + 1) = l.take i ++ [x] := by rw [List.take_add_one, h]; rfl

end Go.Proofs.YtnnaigoomipklaaGreatDoor.M

namespace Go.Proofs.YtnnaigoomipklaaGreatDoor.M

/-- The lines of lists of hunks that are not too great. -/
theorem total_le {l : List ByteArray} {b : Nat} (h : ∀ s ∈ l, s.size ≤ b) : total l ≤ l.length * b := by
  induction l with
  | nil => simp [total]
  | cons s l ih =>
    have h1 := h s (by simp)
    have h2 := ih (fun t ht => h t (by simp [ht]))
    simp only [total, List.length_cons, Nat.add_mul, Nat.one_mul]
    omega

end Go.Proofs.YtnnaigoomipklaaGreatDoor.M

