/-
  Plain facts on the text of steps, piece by piece: no Go, no program.
-/
import Derived.Test.YtnnaigoomipklaaGreatDoorOgSMath
set_option linter.unusedSimpArgs false
set_option linter.unusedVariables false
namespace Go.Proofs.YtnnaigoomipklaaGreatDoor.M
open Go

theorem numsL_len {a b : Nat} (ha : a ≤ 1000) (hb : b ≤ 1000) : (numsL a b).length ≤ 11 := by
  have h1 := dec_len 4 a (by simp; omega)
  have h2 := dec_len 4 b (by simp; omega)
  unfold numsL
  split
  · omega
  · simp; omega

end Go.Proofs.YtnnaigoomipklaaGreatDoor.M
