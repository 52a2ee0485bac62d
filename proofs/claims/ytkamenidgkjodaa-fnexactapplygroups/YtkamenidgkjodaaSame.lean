/-
  SameAhead and SameBehind, the program's and the model's.
-/
import Derived.Test.YtkamenidgkjodaaGood
import Derived.Test.YtkamenidgkjodaaMemT
set_option linter.unusedSimpArgs false
set_option linter.unusedVariables false
namespace Go.Proofs.Ytkamenidgkjodaa
open Go.RowKit M

theorem ahead_stop {l r : List ByteArray} {n m k : Nat} (hn : l.length = n) (hm : r.length = m) (H : ∀ j, j < k → aheadP l r j = true) (h1 : k ≤ n) (h2 : k ≤ m) (h : k = n ∨ k = m ∨ aheadP l r k = false) : aheadT l r = k := by
  unfold aheadT
  refine upto_is (by omega) H ?_
  rcases h with h | h | h
  · exact .inl (by omega)
  · exact .inl (by omega)
  · exact .inr h
theorem ahead_step {l r : List ByteArray} {k : Nat} {s t : ByteArray} (H : ∀ j, j < k → aheadP l r j = true) (hs : l[k]? = some s) (ht : r[k]? = some t) (h : s = t) : ∀ j, j < k + 1 → aheadP l r j = true := by
  intro j hj
  by_cases e : j = k
  · subst e; simp [aheadP, hs, ht, h]
  · exact H j (by omega)
theorem ahead_no {l r : List ByteArray} {k : Nat} {s t : ByteArray} (hs : l[k]? = some s) (ht : r[k]? = some t) (h : s ≠ t) : aheadP l r k = false := by
  simp [aheadP, hs, ht, h]

/-- The two answers of SameAhead and of SameBehind. -/
def sameAhead (l r : List ByteArray) : Nat × Bool := if goodB l && goodB r then (aheadT l r, true) else (0, false)
def sameBehind (l r : List ByteArray) : Nat × Bool := if goodB l && goodB r then (behindT l r, true) else (0, false)

theorem behind_stop {l r : List ByteArray} {n m p k : Nat} (hn : l.length = n) (hm : r.length = m) (hp : aheadT l r = p) (H : ∀ j, j < k → behindP l r j = true) (h1 : k ≤ min n m - p) (h : k = min n m - p ∨ behindP l r k = false) : behindT l r = k := by
  unfold behindT
  rw [hn, hm, hp]
  exact upto_is h1 H h
theorem behind_step {l r : List ByteArray} {n m k : Nat} {s t : ByteArray} (hn : l.length = n) (hm : r.length = m) (H : ∀ j, j < k → behindP l r j = true) (hs : l[n - 1 - k]? = some s) (ht : r[m - 1 - k]? = some t) (h : s = t) : ∀ j, j < k + 1 → behindP l r j = true := by
  intro j hj
  by_cases e : j = k
  · subst e; subst hn; subst hm; simp [behindP, hs, ht, h]
  · exact H j (by omega)
theorem behind_no {l r : List ByteArray} {n m k : Nat} {s t : ByteArray} (hn : l.length = n) (hm : r.length = m) (hs : l[n - 1 - k]? = some s) (ht : r[m - 1 - k]? = some t) (h : s ≠ t) : behindP l r k = false := by
  subst hn; subst hm; simp [behindP, hs, ht, h]

end Go.Proofs.Ytkamenidgkjodaa
