/-
  Numbers of lines: the model's and the program's.
-/
import Derived.Test.YtnnaigoomipklaaDoorProg
import Derived.Test.YtnnaigoomipklaaDoorOkMemT
import Derived.Test.YtnnaigoomipklaaDoorOkSMath
set_option linter.unusedSimpArgs false
set_option linter.unusedVariables false
namespace Go.Proofs.YtnnaigoomipklaaDoor
open Go.RowKit M

theorem l4NumberI_any (a : Int) (n : Nat) (h0 : -100000 ≤ a) (h1 : a ≤ 100000) (w : World) :
    Calls Tryd.prog 95 #[.int .i64 a, .int .i64 (n : Int)] w fun e w' => e = .returned (.int .i64 (numI a n)) ∧ w = w' := by
  by_cases h : n = 0
  · have H := Lib.hid (show numI a n = a from if_pos h)
    subst h
    go_enter Tryd.func95, Tryd.ntmps95
    go_wp2
    go_ret
    exact ⟨ret_int H.out.symm, rfl⟩
  · have H := Lib.hid (show numI a n = a + 1 from if_neg h)
    have hw : IntKind.i64.wrap (a + 1) = a + 1 := by rw [IntKind.wrap_i64]; omega
    have hb1 : ((n : Int) == 0) = false := by simp; omega
    have hb2 : decide (0 < n) = true := by simp; omega
    go_enter Tryd.func95, Tryd.ntmps95
    go_wp2
    go_ret
    exact ⟨ret_int (by rw [H.out]), rfl⟩
theorem numberAtI_any (a : Int) (n : Nat) (h0 : -100000 ≤ a) (h1 : a ≤ 100000) (w : World) :
    Calls Tryd.prog 70 #[.int .i64 a, .int .i64 (n : Int)] w fun e w' => e = .returned (.int .i64 (numI a n)) ∧ w = w' := by
  by_cases h : n = 0
  · have H := Lib.hid (show numI a n = a from if_pos h)
    subst h
    go_enter Tryd.func70, Tryd.ntmps70
    go_wp2
    go_ret
    exact ⟨ret_int H.out.symm, rfl⟩
  · have H := Lib.hid (show numI a n = a + 1 from if_neg h)
    have hw : IntKind.i64.wrap (a + 1) = a + 1 := by rw [IntKind.wrap_i64]; omega
    have hb1 : ((n : Int) == 0) = false := by simp; omega
    have hb2 : decide (0 < n) = true := by simp; omega
    go_enter Tryd.func70, Tryd.ntmps70
    go_wp2
    go_ret
    exact ⟨ret_int (by rw [H.out]), rfl⟩

end Go.Proofs.YtnnaigoomipklaaDoor
