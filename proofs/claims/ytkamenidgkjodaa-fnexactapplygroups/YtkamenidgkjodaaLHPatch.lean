/-
  The law FnExactPatch.
-/
import Derived.Test.YtkamenidgkjodaaHPatch
set_option linter.unusedSimpArgs false
set_option linter.unusedVariables false
namespace Go.Proofs.Ytkamenidgkjodaa
open Go.RowKit M

theorem patchOf_len (l : List ByteArray) (hs : List Hk) : (patchOf l hs).1.length ≤ 1048576 := by
  unfold patchOf
  split
  · next h =>
    simp only [patchOk, Bool.and_eq_true] at h
    have := goodB_len h.2
    dsimp only
    omega
  · simp

end Go.Proofs.Ytkamenidgkjodaa
