/-
  The editor, the program's: lines of the call's own behind a pointer; one order done.
-/
import Derived.Test.YtnnaigoomipklaaDoorOfHPatch
import Derived.Test.YtnnaigoomipklaaDoorOfHApp
import Derived.Test.YtnnaigoomipklaaDoorOfOMem
import Derived.Lib.Overlaps
import Derived.Lib.AppendZerosOnto
import Derived.Lib.SliceRun
import Derived.Laws.Externs
import Derived.ArgAppend
import Derived.Test.YtnnaigoomipklaaDoorOfPart
import Derived.Test.YtnnaigoomipklaaDoorOfURows
import Derived.Deep.RegionLaw
import Derived.Test.YtnnaigoomipklaaDoorOfOGoodK
import Derived.Test.YtnnaigoomipklaaDoorOfORun
set_option linter.unusedSimpArgs false
set_option linter.unusedVariables false
namespace Go.Proofs.YtnnaigoomipklaaDoor
open Go.RowKit Go.ChangeShapes Go.WideShapes M

theorem two_bytes (s : ByteArray) : (s.toList == [46, 10]) = decide (s = dotA) := by
  rw [ByteArray.toList_eq, Bool.eq_iff_iff, beq_iff_eq, decide_eq_true_iff]
  constructor
  · intro h
    apply ByteArray.ext
    apply Array.ext'
    rw [h]
    rfl
  · rintro rfl
    rfl

end Go.Proofs.YtnnaigoomipklaaDoor
