/-
  The laws' own small functions on steps: counted, copied, compared.
  The laws' own small functions on steps: compared, copied, marked.
  The laws' own small functions on steps: copied, marked.
  The laws' own small functions on lists of steps: copied, marked.
  The laws' own small functions on lists of steps: marked, held.
-/
import Derived.Test.YtnnaigoomipklaaDoorOkSMem
import Derived.Test.YtnnaigoomipklaaDoorOkSMath
set_option linter.unusedSimpArgs false
set_option linter.unusedVariables false
namespace Go.Proofs.YtnnaigoomipklaaDoor
open Go.RowKit Go.ChangeShapes Go.WideShapes M

theorem sp_info : (Tryd.prog.info? 83).map (fun i => (i.zero, i.size, i.bytes)) = some (some (.agg #[.int .i64 0, .int .i64 0, .slice none 0 0, .int .i64 0, .int .i64 0, .slice none 0 0]), 6, 80) := by kernel_rfl

end Go.Proofs.YtnnaigoomipklaaDoor

namespace Go.Proofs.YtnnaigoomipklaaDoor
open Go.RowKit Go.ChangeShapes Go.WideShapes M

theorem heap_set_same {w : World} {k j : Nat} {c : Array Value} {t : TypeId} {u : Value} (h : w.heap[k]? = some (.cells c t (0, 0))) : (w.setCell ⟨k, j, none⟩ u).heap[k]? = some (.cells (c.setIfInBounds j u) t (0, 0)) := by
  simp [World.setCell, Array.getElem?_modify, h]

end Go.Proofs.YtnnaigoomipklaaDoor

