/-
  PlaceOf, the program's and the model's, and its law.
-/
import Derived.Test.YtdejlepgihgfgaaHGoodS
set_option linter.unusedSimpArgs false
set_option linter.unusedVariables false
namespace Go.Proofs.Ytdejlepgihgfgaa
open Go.RowKit M





end Go.Proofs.Ytdejlepgihgfgaa
