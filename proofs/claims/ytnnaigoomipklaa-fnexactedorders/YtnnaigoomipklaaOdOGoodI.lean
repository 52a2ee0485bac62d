/-
  Good orders, the program's: kinds of orders behind an interface, and whether each is good.
-/
import Derived.Test.YtnnaigoomipklaaOdOMem
import Derived.Test.YtnnaigoomipklaaOdOMath
import Derived.Test.YtnnaigoomipklaaOdORun
import Derived.Test.YtnnaigoomipklaaOdWhole
set_option linter.unusedSimpArgs false
set_option linter.unusedVariables false
namespace Go.Proofs.Ytnnaigoomipklaa
open Go.RowKit Go.ChangeShapes Go.WideShapes M

theorem areWhole_any (a : Option Addr) (n c : Nat) (l : List ByteArray) (w : World) (hl : Strs w a n l) :
    Calls Try.prog 35 #[.slice a n c] w fun e w' => e = .returned (.bool (goodB l && wholeB l)) ∧ Below w.heap.size w w' := by
  have HF := Lib.hid (show (isWhole l).1 = (goodB l && wholeB l) by unfold isWhole; cases goodB l <;> simp)
  go_enter Try.func35, Try.ntmps35
  go_wp2_with fail
  refine (implIsWhole_any a n c l _ hl).mono ?_
  rintro e w1 ⟨rfl, b1⟩
  go_wp2
  go_ret
  exact ⟨ret_bool HF.out, b1⟩

end Go.Proofs.Ytnnaigoomipklaa
