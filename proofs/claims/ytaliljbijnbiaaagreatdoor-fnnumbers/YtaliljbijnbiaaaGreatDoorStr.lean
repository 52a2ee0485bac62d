/-
  What the functions of chapter 1 (the program's and the model's) do on one text.
-/
import Derived.Test.YtaliljbijnbiaaaGreatDoorProg
import Derived.Test.YtaliljbijnbiaaaGreatDoorBase
import Derived.Test.YtaliljbijnbiaaaGreatDoorMem
set_option linter.unusedSimpArgs false
set_option linter.unusedVariables false
namespace Go.Proofs.YtaliljbijnbiaaaGreatDoor
open Go.RowKit M

set_option maxHeartbeats 400000 in
theorem l1In_any (n lo hi : Int) (w : World) :
    Calls Tryz.prog 44 #[.int .i64 n, .int .i64 lo, .int .i64 hi] w fun e w' => e = .returned (.bool (decide (lo ≤ n) && decide (n ≤ hi))) ∧ w = w' := by
  by_cases h : lo ≤ n
  · by_cases h2 : n ≤ hi
    · go_enter Tryz.func44, Tryz.ntmps44
      go_wp2
      go_ret
      exact ⟨by simp [h, h2], rfl⟩
    · go_enter Tryz.func44, Tryz.ntmps44
      go_wp2
      go_ret
      exact ⟨by simp [h, h2], rfl⟩
  · go_enter Tryz.func44, Tryz.ntmps44
    go_wp2
    go_ret
    exact ⟨by simp; omega, rfl⟩

/-- PlainOf's two answers. -/
def plainOf (s : ByteArray) : ByteArray × Bool := if lineB s then (plain s, true) else (ByteArray.empty, false)

end Go.Proofs.YtaliljbijnbiaaaGreatDoor
