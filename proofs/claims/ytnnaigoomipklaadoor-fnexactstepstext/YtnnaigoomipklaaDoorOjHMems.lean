/-
  Words for memory: a slice of hunks that reads as a list; what the laws count of it.
  The laws' own small functions on hunks: copied, compared, marked.
-/
import Derived.Test.YtnnaigoomipklaaDoorOjMemT
import Derived.Test.YtnnaigoomipklaaDoorOjHBases
set_option linter.unusedSimpArgs false
set_option linter.unusedVariables false
namespace Go.Proofs.YtnnaigoomipklaaDoor
open Go.RowKit Go.ChangeShapes Go.WideShapes M

theorem OwnV.setBelow {w : World} {base : Nat} {v : Value} {a : Addr} {l : List ByteArray} (h : OwnV w base v l) (ha : a.block < base) (u : Value) : OwnV (w.setCell a u) base v l :=
  h.wrote (Wrote.set (fun g => g = a.block) w a u rfl) (fun g e e2 => by have := (h.lt e).1; omega)
theorem heap_at {w : World} {o : Obj} {k : Nat} (h : k = w.heap.size) : (w.alloc o).heap[k]? = some o := by subst h; exact heap_alloc_new w o

section
variable {S : Nat → Prop} {w w' : World} {base n cap g k : Nat} {v u : Value} {A : Option Addr} {l : List Hk} {vs : List Value} {x : Hk}
theorem set_get {α : Type} {l : List α} {k j : Nat} {a b : α} (h : (l.set k a)[j]? = some b) : (k = j ∧ b = a) ∨ (k ≠ j ∧ l[j]? = some b) := by
  rw [List.getElem?_set] at h
  split at h
  · split at h
    · injection h with h; exact .inl ⟨by assumption, h.symm⟩
    · cases h
  · exact .inr ⟨by assumption, h⟩
theorem set_eq {α : Type} {l : List α} {k : Nat} {a : α} (h : k < l.length) : (l.set k a)[k]? = some a := by rw [List.getElem?_set, if_pos rfl, if_pos h]
end

end Go.Proofs.YtnnaigoomipklaaDoor

