/-
  How long the answers are that are orders, or lines and hunks that orders make.
-/
import Derived.Test.YtnnaigoomipklaaObORun
import Derived.Test.YtnnaigoomipklaaObORunS
import Derived.Test.YtnnaigoomipklaaObHMems
import Derived.Test.YtnnaigoomipklaaObDHeap
import Derived.Test.YtnnaigoomipklaaObHPatch
import Derived.Test.YtnnaigoomipklaaObHApp
import Derived.Test.YtnnaigoomipklaaObHBases
import Derived.Test.YtnnaigoomipklaaObGood
import Derived.Test.YtnnaigoomipklaaObMemT
import Derived.Deep.RegionHeld3
import Derived.StillTailTactics
import Derived.BigRegion
set_option linter.unusedSimpArgs false
set_option linter.unusedVariables false
namespace Go.Proofs.Ytnnaigoomipklaa
open Go.RowKit Go.ChangeShapes Go.WideShapes M

theorem runOrders_len (l : List ByteArray) (p : List Od) : (runOrders l p).1.length ≤ 40 := by
  unfold runOrders
  split
  · unfold runO
    split
    · split
      · rename_i hg; exact goodB_len hg
      · simp
    · simp
  · simp

end Go.Proofs.Ytnnaigoomipklaa
