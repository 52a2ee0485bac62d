/-
  The laws' own small functions on orders: counted, copied, compared, marked, held.
-/
import Derived.Test.YtnnaigoomipklaaDoorOfOMem
set_option linter.unusedSimpArgs false
set_option linter.unusedVariables false
namespace Go.Proofs.YtnnaigoomipklaaDoor
open Go.RowKit Go.ChangeShapes Go.WideShapes M

theorem heap_set_otherO {w : World} {a : Addr} {u : Value} {k : Nat} {o : Obj} (h : w.heap[k]? = some o) (hne : a.block ≠ k) : (w.setCell a u).heap[k]? = some o := by rw [Below.heap_setCell _ _ _ _ (fun e => hne e.symm)]; exact h
theorem heap_set_sameO {w : World} {k j : Nat} {c : Array Value} {t : TypeId} {u : Value} (h : w.heap[k]? = some (.cells c t (0, 0))) : (w.setCell ⟨k, j, none⟩ u).heap[k]? = some (.cells (c.setIfInBounds j u) t (0, 0)) := by
  simp [World.setCell, Array.getElem?_modify, h]

end Go.Proofs.YtnnaigoomipklaaDoor
