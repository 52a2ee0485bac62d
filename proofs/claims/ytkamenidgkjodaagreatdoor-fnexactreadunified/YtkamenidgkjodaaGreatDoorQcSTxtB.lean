/-
  Plain facts on the text of steps, piece by piece: no Go, no program.
-/
import Derived.Test.YtkamenidgkjodaaGreatDoorQcSMath
set_option linter.unusedSimpArgs false
set_option linter.unusedVariables false
namespace Go.Proofs.YtkamenidgkjodaaGreatDoor.M
open Go

def showT (sign s : List UInt8) : List UInt8 := (shownL sign s).flatten
theorem showT_eq (sign s : List UInt8) : showT sign s = if endsL s then sign ++ s else sign ++ s ++ [10] ++ noneL := by
  unfold showT shownL
  split <;> simp

end Go.Proofs.YtkamenidgkjodaaGreatDoor.M
