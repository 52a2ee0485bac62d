/-
  Plain facts on good orders and their text: no Go, no program.
-/
import Derived.Test.YtnnaigoomipklaaOdOBase
import Derived.Test.YtnnaigoomipklaaOdSMath
set_option linter.unusedSimpArgs false
set_option linter.unusedVariables false
namespace Go.Proofs.Ytnnaigoomipklaa.M
open Go

/-- A dot alone. -/
def dotA : ByteArray := ⟨#[46, 10]⟩

/-! Orders read. -/

/-! Every line of the text ends in a byte 10 and has no other. -/

end Go.Proofs.Ytnnaigoomipklaa.M
