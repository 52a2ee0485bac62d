/-
  SameAhead and SameBehind, the program's and the model's.
-/
import Derived.Test.YtnnaigoomipklaaGreatDoorOiGood
import Derived.Test.YtnnaigoomipklaaGreatDoorOiMemT
set_option linter.unusedSimpArgs false
set_option linter.unusedVariables false
namespace Go.Proofs.YtnnaigoomipklaaGreatDoor
open Go.RowKit M

set_option maxHeartbeats 400000 in
theorem l1Least_any (x y q : Nat) (w : World) (hq : q = min x y) :
    Calls Tryz.prog 182 #[.int .i64 x, .int .i64 y] w fun e w' => e = .returned (.int .i64 q) ∧ w = w' := by
  by_cases h : x < y
  · have H := Lib.hid (show q = x by omega)
    clear hq
    go_enter Tryz.func182, Tryz.ntmps182
    go_wp2
    go_ret
    exact ⟨ret_int (by rw [H.out]), rfl⟩
  · have H := Lib.hid (show q = y by omega)
    clear hq
    go_enter Tryz.func182, Tryz.ntmps182
    go_wp2
    go_ret
    exact ⟨ret_int (by rw [H.out]), rfl⟩

end Go.Proofs.YtnnaigoomipklaaGreatDoor
