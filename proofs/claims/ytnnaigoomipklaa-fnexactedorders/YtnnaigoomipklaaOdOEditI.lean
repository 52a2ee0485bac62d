/-
  The editor, the program's: lines of the call's own behind a pointer; one order done.
-/
import Derived.Test.YtnnaigoomipklaaOdHPatch
import Derived.Test.YtnnaigoomipklaaOdHApp
import Derived.Test.YtnnaigoomipklaaOdOMem
import Derived.Lib.Overlaps
import Derived.Lib.AppendZerosOnto
import Derived.Lib.SliceRun
import Derived.Laws.Externs
import Derived.ArgAppend
import Derived.Test.YtnnaigoomipklaaOdPart
import Derived.Test.YtnnaigoomipklaaOdURows
import Derived.Deep.RegionLaw
import Derived.Test.YtnnaigoomipklaaOdOGoodI
import Derived.StillTailTactics
import Derived.Test.YtnnaigoomipklaaOdORun
set_option linter.unusedSimpArgs false
set_option linter.unusedVariables false
namespace Go.Proofs.Ytnnaigoomipklaa
open Go.RowKit Go.ChangeShapes Go.WideShapes M

theorem two_bytes (s : ByteArray) : (s.toList == [46, 10]) = decide (s = dotA) := by
  rw [ByteArray.toList_eq, Bool.eq_iff_iff, beq_iff_eq, decide_eq_true_iff]
  constructor
  · intro h
    apply ByteArray.ext
    apply Array.ext'
    rw [h]
    rfl
  · rintro rfl
    rfl

end Go.Proofs.Ytnnaigoomipklaa
