/-
  Words for memory: a slice of hunks that reads as a list; what the laws count of it.
  The laws' own small functions on hunks: copied, compared, marked.
-/
import Derived.Test.YtnnaigoomipklaaObMemT
import Derived.Test.YtnnaigoomipklaaObHBases
set_option linter.unusedSimpArgs false
set_option linter.unusedVariables false
namespace Go.Proofs.Ytnnaigoomipklaa
open Go.RowKit Go.ChangeShapes Go.WideShapes M

theorem OwnV.setBelow {w : World} {base : Nat} {v : Value} {a : Addr} {l : List ByteArray} (h : OwnV w base v l) (ha : a.block < base) (u : Value) : OwnV (w.setCell a u) base v l :=
  h.wrote (Wrote.set (fun g => g = a.block) w a u rfl) (fun g e e2 => by have := (h.lt e).1; omega)
theorem heap_at {w : World} {o : Obj} {k : Nat} (h : k = w.heap.size) : (w.alloc o).heap[k]? = some o := by subst h; exact heap_alloc_new w o

section
variable {S : Nat → Prop} {w w' : World} {base n cap g k : Nat} {v u : Value} {A : Option Addr} {l : List Hk} {vs : List Value} {x : Hk}
theorem set_get {α : Type} {l : List α} {k j : Nat} {a b : α} (h : (l.set k a)[j]? = some b) : (k = j ∧ b = a) ∨ (k ≠ j ∧ l[j]? = some b) := by
  rw [List.getElem?_set] at h
  split at h
  · split at h
    · injection h with h; exact .inl ⟨by assumption, h.symm⟩
    · cases h
  · exact .inr ⟨by assumption, h⟩
theorem set_eq {α : Type} {l : List α} {k : Nat} {a : α} (h : k < l.length) : (l.set k a)[k]? = some a := by rw [List.getElem?_set, if_pos rfl, if_pos h]
end

end Go.Proofs.Ytnnaigoomipklaa

namespace Go.Proofs.Ytnnaigoomipklaa
open Go.RowKit Go.ChangeShapes Go.WideShapes M

theorem nat_ok {k : Nat} (h : k ≤ 33554432) : i64ok (k : Int) := ⟨by omega, by omega⟩

theorem szT_more (a : Option Addr) (n c : Nat) (l : List ByteArray) (left : Int) (w : World) (hl : Strs w a n l) (h0 : 0 ≤ left) (h1 : left ≤ 1048576) (h : (l.length : Int) + total l ≤ left) :
    Calls Try.prog 7 #[.slice a n c, .int .i64 left] w fun e w' => ∃ r : Int, 0 ≤ r ∧ r ≤ 1048576 ∧ Hid (r + l.length + total l = left) ∧ e = .returned (.int .i64 r) ∧ w = w' := by
  have e : szS l left = left - l.length - total l := if_neg (by omega)
  refine (szStringS_any a n c l left w hl h0 h1).mono fun e' w' ⟨h1, h2⟩ => ⟨szS l left, by omega, by omega, show _ = _ by omega, h1, h2⟩
theorem markStrW_any (A : Option Addr) (n cap base k0 : Nat) (l : List ByteArray) (w : World) (ho : OwnV w base (.slice A n cap) l) (hn : n ≤ 1048576) (hk : k0 ≤ 16777216) :
    Calls Try.prog 16 #[.slice A n cap, .int .i64 k0] w fun e w' => e = .returned (.int .i64 ((k0 + n : Nat) : Int)) ∧ OwnV w' base (.slice A n cap) (marks k0 n) ∧ Wrote (fun g => (Value.slice A n cap).ownBlock = some g) w w' :=
  (markStringS_any A n cap base k0 l w ho hn hk).mono fun e w' ⟨h1, h2, h3⟩ => ⟨h1, h2, Wrote.of_grown h3 (fun _ e => e)⟩
theorem Wrote.below' {S : Nat → Prop} {w w' a : World} (hb : Below a.heap.size a w) (h : Wrote S w w') (hs : ∀ k, S k → a.heap.size ≤ k) : Below a.heap.size a w' := Wrote.below hb h hb.size hs

end Go.Proofs.Ytnnaigoomipklaa
