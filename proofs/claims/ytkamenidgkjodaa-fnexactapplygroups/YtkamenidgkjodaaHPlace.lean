/-
  PlaceOf, the program's and the model's, and its law.
-/
import Derived.Test.YtkamenidgkjodaaHGoods
set_option linter.unusedSimpArgs false
set_option linter.unusedVariables false
namespace Go.Proofs.Ytkamenidgkjodaa
open Go.RowKit M

end Go.Proofs.Ytkamenidgkjodaa
